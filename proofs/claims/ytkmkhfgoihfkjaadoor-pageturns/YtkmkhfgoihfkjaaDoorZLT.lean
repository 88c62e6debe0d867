import Derived.Test.YtkmkhfgoihfkjaaDoorZLS
import Derived.Test.YtkmkhfgoihfkjaaDoorZShelf
namespace Go.Proofs.YtkmkhfgoihfkjaaDoor
open Go.RowKit

def sumZ (xs : List ByteArray) : Nat := (xs.map ByteArray.size).sum
theorem sumZ_snoc (xs : List ByteArray) (k : Nat) (h : k < xs.length) : sumZ (xs.take (k + 1)) = sumZ (xs.take k) + xs[k].size := by
  unfold sumZ
  rw [List.take_add_one, List.getElem?_eq_getElem h, List.map_append, List.sum_append]
  simp
theorem sumZ_mem (xs : List ByteArray) (x : ByteArray) (h : x ∈ xs) : x.size ≤ sumZ xs := by
  induction xs with
  | nil => cases h
  | cons y xs ih =>
    have e : sumZ (y :: xs) = y.size + sumZ xs := by simp [sumZ]
    rcases List.mem_cons.1 h with rfl | h
    · omega
    · have := ih h
      omega
/-- The value that a link is given. -/
def vx (xs : List ByteArray) (i : Nat) : ByteArray := (xs[i % xs.length]?).getD ⟨#[]⟩
def vxs (xs : List ByteArray) (k : Nat) : List ByteArray := (List.range k).map (vx xs)
theorem vxs_succ (xs : List ByteArray) (k : Nat) : vxs xs (k + 1) = vxs xs k ++ [vx xs k] := by
  unfold vxs
  rw [List.range_succ, List.map_append]
  rfl
def owns (ls : List Lk) : List ByteArray := ls.map fun l => l.2.2
theorem owns_succ (ls : List Lk) (k : Nat) (h : k < ls.length) : owns (ls.take (k + 1)) = owns (ls.take k) ++ [ls[k].2.2] := by
  unfold owns
  rw [List.take_add_one, List.getElem?_eq_getElem h, List.map_append]
  rfl

theorem grown_cellP {W w' : World} {r : Option Nat} (hg : W.grownBy w' r) {b : Nat} {u : Value} (hr : r ≠ some b) (h : W.cell? ⟨b, 0, none⟩ = some u) : w'.cell? ⟨b, 0, none⟩ = some u := by
  have e := hg.block b (World.block_lt_of_cell? W _ h) (fun x => hr x.symm)
  unfold World.cell? at h ⊢
  simp only [e]
  exact h

theorem replace_n (pg : ByteArray) (A : Option Addr) (n cap : Nat) (xs : List ByteArray) (hnx : n = xs.length) (w : World) (hG : PGB w w.heap.size) (hl : pg.size ≤ 100000000) (its : List PItem) (tl : List UInt8) (hR : Run none pg.data.toList its tl) (hX : TL w (.slice A n cap) xs) (hxs : ∀ x ∈ xs, x.size ≤ 100000000) (hn : xs.length = countP its) (hT : (outP its ((tls xs).map escS) tl).length ≤ 1000000000) :
    Calls Tryd.prog 6 #[.string pg, .slice A n cap] w fun e w' => ∃ S : ByteArray, e = .returned (.tuple #[.string S, .nilIface]) ∧ S.data.toList = outP its ((tls xs).map escS) tl ∧ Below w.heap.size w w' := by
  subst hnx
  exact replace_any pg A cap xs w hG hl its tl hR hX hxs hn hT
theorem vx_size (xs : List ByteArray) (h : ∀ x ∈ xs, x.size ≤ 1500) (k : Nat) : ∀ x ∈ vxs xs k, x.size ≤ 1500 := by
  intro x hx
  unfold vxs at hx
  obtain ⟨i, _, rfl⟩ := List.mem_map.1 hx
  unfold vx
  cases hq : xs[i % xs.length]? with
  | none => exact Nat.zero_le _
  | some y => exact h y (List.mem_of_getElem? hq)
theorem owns_tls (ls : List Lk) (its : List PItem) (h : ls.map lk2 = linksP 0 its) : tls (owns ls) = (linksP 0 its).map fun q => q.2.2 := by
  rw [← h]
  unfold tls owns
  rw [List.map_map, List.map_map]
  rfl
theorem owns_size (pg : ByteArray) (hp : pg.size ≤ 1500) (ls : List Lk) (its : List PItem) (tl : List UInt8) (hs : pg.data.toList = srcP its tl) (h : ls.map lk2 = linksP 0 its) : ∀ x ∈ owns ls, x.size ≤ 1500 := by
  intro x hx
  have h1 : x.data.toList ∈ tls (owns ls) := List.mem_map_of_mem (f := fun x : ByteArray => x.data.toList) hx
  rw [owns_tls ls its h] at h1
  obtain ⟨q, hq, he⟩ := List.mem_map.1 h1
  have := srcP_links its 0 tl q hq
  rw [← hs, size_list, he, size_list] at this
  omega
theorem out_bound (pg : ByteArray) (hp : pg.size ≤ 1500) (its : List PItem) (tl : List UInt8) (hs : pg.data.toList = srcP its tl) (hc : countP its ≤ 1500) (xs : List ByteArray) (hx : ∀ x ∈ xs, x.size ≤ 1500) : (outP its ((tls xs).map escS) tl).length ≤ 20000000 := by
  have h1 := outP_len 9000 its ((tls xs).map escS) tl (by
    intro v hv
    obtain ⟨y, hy, rfl⟩ := List.mem_map.1 hv
    obtain ⟨x, hx1, rfl⟩ := List.mem_map.1 hy
    have := escS_len x.data.toList
    rw [size_list] at this
    have := hx x hx1
    omega)
  rw [← hs, size_list] at h1
  have h2 : countP its * (9000 + 2) ≤ 1500 * 9002 := Nat.mul_le_mul_right _ hc
  omega
theorem vals_back (its : List PItem) (xs : List ByteArray) (hn : xs.length = countP its) (ms : List Lk) (hm : ms.map lk2 = linksP 0 (turned its ((tls xs).map escS))) : ms.length = xs.length ∧ ∀ k (hk : k < ms.length) (hk2 : k < xs.length), ms[k].2.2 = xs[k] := by
  have h1 := links_vals its ((tls xs).map escS) 0 (by unfold tls; rw [List.length_map, List.length_map]; exact hn)
  rw [← hm, List.map_map, List.map_map] at h1
  have e : (unescS ∘ escS) = id := by funext x; exact unescS_esc x
  rw [e, List.map_id] at h1
  have hl := congrArg List.length h1
  unfold tls at hl h1
  rw [List.length_map, List.length_map] at hl
  refine ⟨hl, fun k hk hk2 => ?_⟩
  have h2 := congrArg (fun l => l[k]?) h1
  simp only [List.getElem?_map, List.getElem?_eq_getElem hk, List.getElem?_eq_getElem hk2, Option.map_some, Option.some.injEq] at h2
  exact bytes_eq h2

set_option maxHeartbeats 8000000 in
set_option maxRecDepth 100000 in
theorem turns_small (pg : ByteArray) (A : Option Addr) (cap : Nat) (xs : List ByteArray) (w : World) (hX : TL w (.slice A xs.length cap) xs) (hG : PGB w w.heap.size) (hp : pg.size ≤ 1500) (hn : xs.length ≤ 60) (hzs : ∀ x ∈ xs, x.size ≤ 1000000000000000) :
    Calls Tryd.prog 3 #[.string pg, .slice A xs.length cap] w fun e w' => e = .returned (.bool true) ∧ Below w.heap.size w w' := by
  have HX := Box.mk hX
  have HG := Box.mk hG
  have HZ := Box.mk hzs
  clear hX hG hzs
  go_enter Tryd.func3, Tryd.ntmps3
  go_wp2
  go_loopg [5, 6] xs.length (fun gf nv iv wx => ∃ k : Nat, k ≤ xs.length ∧ nv = .int .i64 (sumZ (xs.take k) : Nat) ∧ iv = .int .i64 k ∧ sumZ (xs.take k) ≤ 1500 ∧ wx = w ∧ xs.length - k ≤ gf)
  case atStart => exact ⟨0, Nat.zero_le _, rfl, rfl, by simp [sumZ], rfl, by omega⟩
  case round =>
    obtain ⟨k, hk, rfl, rfl, hsum, rfl, hgf⟩ := hrel
    by_cases hlt : k < xs.length
    · obtain ⟨bv, off, hA, hcv⟩ : ∃ bv off, A = some ⟨bv, off, none⟩ ∧ wr.cell? ⟨bv, off + k, none⟩ = some (.string xs[k]) := by
        obtain ⟨A', cap', h1, _, h3⟩ := HX.out
        obtain ⟨bv, off, h4, h5⟩ := h3 k hlt
        simp only [Value.slice.injEq] at h1
        exact ⟨bv, off, h1.1.trans h4, h5⟩
      subst hA
      have hzk := HZ.out _ (List.getElem_mem hlt)
      have HSU := Box.mk (sumZ_snoc xs k hlt)
      generalize xs[k] = x at hcv hzk HSU
      generalize sumZ (xs.take k) = n0 at hsum HSU ⊢
      have HLT := Box.mk hlt
      by_cases hbig : 1500 < n0 + x.size
      · have k1 : (1500 : Int) < (n0 : Int) + (x.size : Int) := by omega
        go_wp2
        go_ret
        exact ⟨rfl, Below.refl _ _⟩
      · have k1 : ¬ (1500 : Int) < (n0 : Int) + (x.size : Int) := by omega
        go_wp2
        go_roundg (xs.length - (k + 1))
        case measure => have := HLT.out; omega
        case rel => exact ⟨k + 1, HLT.out, by rw [HSU.out]; go_num, by go_num, by rw [HSU.out]; omega, rfl, by have := HLT.out; omega⟩
    · have hkl : k = xs.length := by omega
      have HZ2 : Box (∀ x ∈ xs, x.size ≤ 1500) := ⟨fun x hx => by
        have := sumZ_mem xs x hx
        rw [hkl, List.take_of_length_le (Nat.le_refl _)] at hsum
        omega⟩
      clear HZ hsum
      obtain ⟨w0, rfl⟩ : ∃ w0, w0 = wr := ⟨wr, rfl⟩
      obtain ⟨its, tl, hR⟩ := run_all pg.data.toList
      have HR := Box.mk hR
      clear hR
      go_wp2_with fail
      refine (linked_any _ HG.out).mono ?_
      rintro e w1 ⟨rfl, hb1⟩
      have HG1 := Box.mk ((HG.out.below hb1).up hb1.size)
      go_wp2_with fail
      refine (links_any pg w1 HG1.out (by omega) its tl HR.out).mono ?_
      rintro e w2 ⟨v2, ls, rfl, hO2, hls, hb2⟩
      obtain ⟨AL, capL, hv, hcL⟩ := hO2.len
      subst hv
      have HLS := Box.mk hls
      have hb02 : Below w0.heap.size w0 w2 := hb1.trans (hb2.mono hb1.size)
      have HO2 := Box.mk hO2
      have HCN : Box (ls.length = countP its) := ⟨by have := congrArg List.length hls; rw [List.length_map, links_len] at this; exact this⟩
      have hll : ls.length ≤ 1500 := by have := run_count none _ its tl HR.out; rw [size_list, ← HCN.out] at this; omega
      clear hO2 hls
      go_wp2
      go_loopg [8, 9, 10] ls.length (fun gf vv ov iv wx => ∃ k : Nat, k ≤ ls.length ∧ iv = .int .i64 k ∧ Box (TwoS wx w2.heap.size vv ov (vxs xs k) (owns (ls.take k))) ∧ Below w2.heap.size w2 wx ∧ ls.length - k ≤ gf)
      case atStart => exact ⟨0, Nat.zero_le _, rfl, ⟨⟨OwnS.nil _ _, OwnS.nil _ _, fun i h => by cases h⟩⟩, Below.refl _ _, by omega⟩
      case round =>
        obtain ⟨k, hk, rfl, HT, hbw, hgf⟩ := hrel
        have hsz := hbw.size
        by_cases hlt : k < ls.length
        · have HLT := Box.mk hlt
          have HW : Box (owns (ls.take (k + 1)) = owns (ls.take k) ++ [ls[k].2.2]) := ⟨owns_succ ls k hlt⟩
          have HVx := Box.mk (vxs_succ xs k)
          rcases HO2.out.shape with ⟨_, h0⟩ | ⟨g, cg, hg, hg1, hg2, _⟩
          · rw [h0] at hlt; exact absurd hlt (by simp)
          · simp only [Value.slice.injEq] at hg
            obtain ⟨rfl, _, rfl⟩ := hg
            obtain ⟨_, _, c2⟩ := (HO2.out.below hbw (Nat.le_refl _)).cell k hlt
            obtain ⟨_, _, c2'⟩ := HO2.out.cell k hlt
            generalize ls[k].2.2 = V at c2 c2' HW
            have hgl : g < w2.heap.size := hg2
            by_cases h0 : ¬ 0 < xs.length
            · have hx : vx xs k = ⟨#[]⟩ := by
                unfold vx
                have hnil : xs = [] := List.eq_nil_of_length_eq_zero (by omega)
                rw [hnil]
                rfl
              rw [hx] at HVx
              have hx0 : ¬ (0 : Int) < (xs.length : Int) := by omega
              go_wp2_with fail
              have HK : Box (∀ w', Below w2.heap.size w2 w' → (w'.cell? ⟨g, k * 3 + 2, none⟩ = some (.string V) ∧ Below w2.heap.size w2 w')) := ⟨fun w' hb' => ⟨(hb'.cell (p := ⟨g, k * 3 + 2, none⟩) hgl).trans c2', hb'⟩⟩
              have HL1 : Box ((vxs xs k).length + 1 ≤ 1000000000) := ⟨by unfold vxs; rw [List.length_map, List.length_range]; omega⟩
              have HL2 : Box ((owns (ls.take k)).length + 1 ≤ 1000000000) := ⟨by unfold owns; rw [List.length_map, List.length_take]; omega⟩
              have hr8 : ∀ b, wr.heap.size ≤ b → u8.ownBlock ≠ some b := fun b hb e => by have := (World.ownsRow.lt HT.out.o b e).2; omega
              have hr9 : ∀ b, wr.heap.size ≤ b → u9.ownBlock ≠ some b := fun b hb e => by have := (World.ownsRow.lt HT.out.c b e).2; omega
              have hbd := hbw.drew
              have k7 : (k : Int) < (ls.length : Int) := by omega
              have k8 : (0 : Int) ≤ (k : Int) := by omega
              go_region_held3 (fun w' => w'.cell? ⟨g, k * 3 + 2, none⟩ = some (.string V) ∧ Below w2.heap.size w2 w')
                ((go_split_ands; first | exact HK.out _ hbd | exact HK.out _ hb8 | exact HK.out _ hb9 | exact HK.out _ (Below.alloc (by assumption) (Below.size (by assumption)) _)))
                (first
                  | (refine step_appS _ (by rfl) (.tmp 68) (.tmp 70) (by rfl) w2.heap.size u8 (vxs xs k) (by rfl) (by first | exact hT9.o | exact World.ownsRow.alloc hT9.o _) _ _ (⟨#[]⟩ : ByteArray) (by rfl) (by first | (simp; done) | exact grown_cellP hg9 (hr9 _ (by simp)) (by simp; done)) HL1.out (by have := hb9.size; first | omega | (simp; omega)) ?_; intro v8 w8 hO8 hg8 hk8; have hT8 : TwoS w8 w2.heap.size v8 v9 (vxs xs k ++ [(⟨#[]⟩ : ByteArray)]) (owns (ls.take k) ++ [V]) := (by first | exact (hT9.swap.app2 hO8 hg8 hk8).swap | exact ((hT9.alloc _).swap.app2 hO8 hg8 hk8).swap); have hb8 : Below w2.heap.size w2 w8 := Below.grown (by go_split_ands; assumption) hg8 (by have := hb9.size; first | omega | (simp; omega)) (fun i hi => (World.ownsRow.lt HT.out.o i hi).1); clear hk8 hO8)
                  | (refine step_appS _ (by rfl) (.tmp 68) (.tmp 70) (by rfl) w2.heap.size u8 (vxs xs k) (by rfl) (by first | exact World.ownsRow.alloc HT.out.o _ | exact World.ownsRow.alloc (World.ownsRow.alloc HT.out.o _) _) _ _ (⟨#[]⟩ : ByteArray) (by rfl) (by simp; done) HL1.out (by simp; omega) ?_; intro v8 w8 hO8 hg8 hk8; have hT8 : TwoS w8 w2.heap.size v8 u9 (vxs xs k ++ [(⟨#[]⟩ : ByteArray)]) (owns (ls.take k)) := (by first | exact (((HT.out.alloc _).drew).swap.app2 hO8 hg8 hk8).swap | exact ((((HT.out.alloc _).alloc _).drew).swap.app2 hO8 hg8 hk8).swap); have hb8 : Below w2.heap.size w2 w8 := Below.grown (by go_split_ands; assumption) hg8 (by simp; omega) (fun i hi => (World.ownsRow.lt HT.out.o i hi).1); clear hk8 hO8)
                  | (refine step_appS _ (by rfl) (.tmp 72) (.tmp 78) (by rfl) w2.heap.size u9 (owns (ls.take k)) (by rfl) (by first | exact hT8.c | exact World.ownsRow.alloc hT8.c _) _ _ V (by rfl) (by first | (simp; done) | exact grown_cellP hg8 (hr8 _ (by simp)) (by simp; done)) HL2.out (by have := hb8.size; first | omega | (simp; omega)) ?_; intro v9 w9 hO9 hg9 hk9; have hT9 : TwoS w9 w2.heap.size v8 v9 (vxs xs k ++ [(⟨#[]⟩ : ByteArray)]) (owns (ls.take k) ++ [V]) := (by first | exact hT8.app2 hO9 hg9 hk9 | exact (hT8.alloc _).app2 hO9 hg9 hk9); have hb9 : Below w2.heap.size w2 w9 := Below.grown (by go_split_ands; assumption) hg9 (by have := hb8.size; first | omega | (simp; omega)) (fun i hi => (World.ownsRow.lt HT.out.c i hi).1); clear hk9 hO9)
                  | (refine step_appS _ (by rfl) (.tmp 72) (.tmp 78) (by rfl) w2.heap.size u9 (owns (ls.take k)) (by rfl) (by first | exact World.ownsRow.alloc HT.out.c _ | exact World.ownsRow.alloc (World.ownsRow.alloc HT.out.c _) _) _ _ V (by rfl) (by simp; done) HL2.out (by simp; omega) ?_; intro v9 w9 hO9 hg9 hk9; have hT9 : TwoS w9 w2.heap.size u8 v9 (vxs xs k) (owns (ls.take k) ++ [V]) := (by first | exact ((HT.out.alloc _).drew).app2 hO9 hg9 hk9 | exact (((HT.out.alloc _).alloc _).drew).app2 hO9 hg9 hk9); have hb9 : Below w2.heap.size w2 w9 := Below.grown (by go_split_ands; assumption) hg9 (by simp; omega) (fun i hi => (World.ownsRow.lt HT.out.c i hi).1); clear hk9 hO9))
              all_goals
                have HN : Box (∀ wz, TwoS wz w2.heap.size v8 v9 (vxs xs k ++ [(⟨#[]⟩ : ByteArray)]) (owns (ls.take k) ++ [V]) → TwoS wz w2.heap.size v8 v9 (vxs xs (k + 1)) (owns (ls.take (k + 1)))) := ⟨fun wz h => by rw [HVx.out, HW.out]; exact h⟩
                go_wp2
                go_roundg (ls.length - (k + 1))
                case measure => have := HLT.out; omega
                case rel => first | exact ⟨k + 1, HLT.out, by go_num, ⟨HN.out _ hT8⟩, hb8, by have := HLT.out; omega⟩ | exact ⟨k + 1, HLT.out, by go_num, ⟨HN.out _ hT9⟩, hb9, by have := HLT.out; omega⟩
            · have hxm : k % xs.length < xs.length := Nat.mod_lt _ (by omega)
              obtain ⟨bv, off, hA, hcv⟩ : ∃ bv off, A = some ⟨bv, off, none⟩ ∧ w0.cell? ⟨bv, off + k % xs.length, none⟩ = some (.string (vx xs k)) := by
                obtain ⟨A', cap', h1, _, h3⟩ := HX.out
                obtain ⟨bv, off, h4, h5⟩ := h3 _ hxm
                simp only [Value.slice.injEq] at h1
                refine ⟨bv, off, h1.1.trans h4, ?_⟩
                rw [h5]
                unfold vx
                rw [List.getElem?_eq_getElem hxm]
                rfl
              subst hA
              have hcv2 := ((hb02.trans (hbw.mono (Nat.le_trans hb1.size hb2.size))).cell (p := ⟨bv, off + k % xs.length, none⟩) (World.block_lt_of_cell? _ _ hcv)).trans hcv
              have htm : (k : Int).tmod (xs.length : Int) = ((k % xs.length : Nat) : Int) := by rw [Int.natCast_emod]; exact Int.tmod_eq_emod_of_nonneg (by omega)
              generalize k % xs.length = r at hxm hcv hcv2 htm
              generalize vx xs k = x at hcv hcv2 HVx
              have hx0 : (0 : Int) < (xs.length : Int) := by omega
              have hr1 : (r : Int) < (xs.length : Int) := by omega
              have hr0 : (0 : Int) ≤ (r : Int) := by omega
              go_wp2_with fail
              have HK : Box (∀ w', Below w2.heap.size w2 w' → (w'.cell? ⟨g, k * 3 + 2, none⟩ = some (.string V) ∧ Below w2.heap.size w2 w')) := ⟨fun w' hb' => ⟨(hb'.cell (p := ⟨g, k * 3 + 2, none⟩) hgl).trans c2', hb'⟩⟩
              have HL1 : Box ((vxs xs k).length + 1 ≤ 1000000000) := ⟨by unfold vxs; rw [List.length_map, List.length_range]; omega⟩
              have HL2 : Box ((owns (ls.take k)).length + 1 ≤ 1000000000) := ⟨by unfold owns; rw [List.length_map, List.length_take]; omega⟩
              have hr8 : ∀ b, wr.heap.size ≤ b → u8.ownBlock ≠ some b := fun b hb e => by have := (World.ownsRow.lt HT.out.o b e).2; omega
              have hr9 : ∀ b, wr.heap.size ≤ b → u9.ownBlock ≠ some b := fun b hb e => by have := (World.ownsRow.lt HT.out.c b e).2; omega
              have hbd := hbw.drew
              have k7 : (k : Int) < (ls.length : Int) := by omega
              have k8 : (0 : Int) ≤ (k : Int) := by omega
              go_region_held3 (fun w' => w'.cell? ⟨g, k * 3 + 2, none⟩ = some (.string V) ∧ Below w2.heap.size w2 w')
                ((go_split_ands; first | exact HK.out _ hbd | exact HK.out _ hb8 | exact HK.out _ hb9 | exact HK.out _ (Below.alloc (by assumption) (Below.size (by assumption)) _)))
                (first
                  | (refine step_appS _ (by rfl) (.tmp 68) (.tmp 70) (by rfl) w2.heap.size u8 (vxs xs k) (by rfl) (by first | exact hT9.o | exact World.ownsRow.alloc hT9.o _) _ _ x (by rfl) (by first | (simp; done) | exact grown_cellP hg9 (hr9 _ (by simp)) (by simp; done)) HL1.out (by have := hb9.size; first | omega | (simp; omega)) ?_; intro v8 w8 hO8 hg8 hk8; have hT8 : TwoS w8 w2.heap.size v8 v9 (vxs xs k ++ [x]) (owns (ls.take k) ++ [V]) := (by first | exact (hT9.swap.app2 hO8 hg8 hk8).swap | exact ((hT9.alloc _).swap.app2 hO8 hg8 hk8).swap); have hb8 : Below w2.heap.size w2 w8 := Below.grown (by go_split_ands; assumption) hg8 (by have := hb9.size; first | omega | (simp; omega)) (fun i hi => (World.ownsRow.lt HT.out.o i hi).1); clear hk8 hO8)
                  | (refine step_appS _ (by rfl) (.tmp 68) (.tmp 70) (by rfl) w2.heap.size u8 (vxs xs k) (by rfl) (by first | exact World.ownsRow.alloc HT.out.o _ | exact World.ownsRow.alloc (World.ownsRow.alloc HT.out.o _) _) _ _ x (by rfl) (by simp; done) HL1.out (by simp; omega) ?_; intro v8 w8 hO8 hg8 hk8; have hT8 : TwoS w8 w2.heap.size v8 u9 (vxs xs k ++ [x]) (owns (ls.take k)) := (by first | exact (((HT.out.alloc _).drew).swap.app2 hO8 hg8 hk8).swap | exact ((((HT.out.alloc _).alloc _).drew).swap.app2 hO8 hg8 hk8).swap); have hb8 : Below w2.heap.size w2 w8 := Below.grown (by go_split_ands; assumption) hg8 (by simp; omega) (fun i hi => (World.ownsRow.lt HT.out.o i hi).1); clear hk8 hO8)
                  | (refine step_appS _ (by rfl) (.tmp 72) (.tmp 78) (by rfl) w2.heap.size u9 (owns (ls.take k)) (by rfl) (by first | exact hT8.c | exact World.ownsRow.alloc hT8.c _) _ _ V (by rfl) (by first | (simp; done) | exact grown_cellP hg8 (hr8 _ (by simp)) (by simp; done)) HL2.out (by have := hb8.size; first | omega | (simp; omega)) ?_; intro v9 w9 hO9 hg9 hk9; have hT9 : TwoS w9 w2.heap.size v8 v9 (vxs xs k ++ [x]) (owns (ls.take k) ++ [V]) := (by first | exact hT8.app2 hO9 hg9 hk9 | exact (hT8.alloc _).app2 hO9 hg9 hk9); have hb9 : Below w2.heap.size w2 w9 := Below.grown (by go_split_ands; assumption) hg9 (by have := hb8.size; first | omega | (simp; omega)) (fun i hi => (World.ownsRow.lt HT.out.c i hi).1); clear hk9 hO9)
                  | (refine step_appS _ (by rfl) (.tmp 72) (.tmp 78) (by rfl) w2.heap.size u9 (owns (ls.take k)) (by rfl) (by first | exact World.ownsRow.alloc HT.out.c _ | exact World.ownsRow.alloc (World.ownsRow.alloc HT.out.c _) _) _ _ V (by rfl) (by simp; done) HL2.out (by simp; omega) ?_; intro v9 w9 hO9 hg9 hk9; have hT9 : TwoS w9 w2.heap.size u8 v9 (vxs xs k) (owns (ls.take k) ++ [V]) := (by first | exact ((HT.out.alloc _).drew).app2 hO9 hg9 hk9 | exact (((HT.out.alloc _).alloc _).drew).app2 hO9 hg9 hk9); have hb9 : Below w2.heap.size w2 w9 := Below.grown (by go_split_ands; assumption) hg9 (by simp; omega) (fun i hi => (World.ownsRow.lt HT.out.c i hi).1); clear hk9 hO9))
              all_goals
                have HN : Box (∀ wz, TwoS wz w2.heap.size v8 v9 (vxs xs k ++ [x]) (owns (ls.take k) ++ [V]) → TwoS wz w2.heap.size v8 v9 (vxs xs (k + 1)) (owns (ls.take (k + 1)))) := ⟨fun wz h => by rw [HVx.out, HW.out]; exact h⟩
                go_wp2
                go_roundg (ls.length - (k + 1))
                case measure => have := HLT.out; omega
                case rel => first | exact ⟨k + 1, HLT.out, by go_num, ⟨HN.out _ hT8⟩, hb8, by have := HLT.out; omega⟩ | exact ⟨k + 1, HLT.out, by go_num, ⟨HN.out _ hT9⟩, hb9, by have := HLT.out; omega⟩
        · have hkl : k = ls.length := by omega
          have HT2 : Box (TwoS wr w2.heap.size u8 u9 (vxs xs ls.length) (owns ls)) := ⟨by
            have h := HT.out
            rw [hkl, List.take_of_length_le (Nat.le_refl _)] at h
            exact h⟩
          clear HT
          obtain ⟨A8, cap8, h8, -, -⟩ := HT2.out.o.tl
          obtain ⟨A9, cap9, h9, -, -⟩ := HT2.out.c.tl
          have hvl : (vxs xs ls.length).length = ls.length := by unfold vxs; rw [List.length_map, List.length_range]
          have hol : (owns ls).length = ls.length := by unfold owns; rw [List.length_map]
          rw [hvl] at h8
          rw [hol] at h9
          subst h8 h9
          have hps := (page_turned pg.data.toList its tl HR.out []).1
          have HPS := Box.mk hps
          have HV := Box.mk (vx_size xs HZ2.out ls.length)
          have HOw := Box.mk (owns_size pg hp ls its tl hps HLS.out)
          have HVL : Box ((vxs xs ls.length).length = ls.length) := ⟨hvl⟩
          have HOL : Box ((owns ls).length = ls.length) := ⟨hol⟩
          have HBV := Box.mk (out_bound pg hp its tl hps (by rw [← HCN.out]; exact hll) (vxs xs ls.length) HV.out)
          have HBO := Box.mk (out_bound pg hp its tl hps (by rw [← HCN.out]; exact hll) (owns ls) HOw.out)
          have hb03 : Below w0.heap.size w0 wr := hb02.trans (hbw.mono (Nat.le_trans hb1.size hb2.size))
          have HG3 := Box.mk ((HG.out.below hb03).up hb03.size)
          clear hps hvl hol hkl hk hgf
          go_wp2_with fail
          refine (replace_n pg A8 ls.length cap8 (vxs xs ls.length) HVL.out.symm wr HG3.out (by omega) its tl HR.out HT2.out.o.tl (fun x hx => by have := HV.out x hx; omega) (by rw [HVL.out]; exact HCN.out) (by have := HBV.out; omega)).mono ?_
          rintro e w4 ⟨S1, rfl, hS1, hb4⟩
          have HS1 := Box.mk hS1
          have hb04 := hb03.trans (hb4.mono hb03.size)
          have HG4 := Box.mk ((HG.out.below hb04).up hb04.size)
          have HT4 := Box.mk (HT2.out.below hb4)
          clear hS1
          go_wp2_with fail
          refine (replace_n pg A9 ls.length cap9 (owns ls) HOL.out.symm w4 HG4.out (by omega) its tl HR.out HT4.out.c.tl (fun x hx => by have := HOw.out x hx; omega) (by rw [HOL.out]; exact HCN.out) (by have := HBO.out; omega)).mono ?_
          rintro e w5 ⟨S2, rfl, hS2, hb5⟩
          have HS2 := Box.mk hS2
          have hb05 := hb04.trans (hb5.mono hb04.size)
          have HG5 := Box.mk ((HG.out.below hb05).up hb05.size)
          have HT5 := Box.mk (HT4.out.below hb5)
          have hsz1 : S1.size ≤ 20000000 := by rw [← size_list, HS1.out]; exact HBV.out
          have hsz2 : S2.size ≤ 20000000 := by rw [← size_list, HS2.out]; exact HBO.out
          clear hS2
          have HR1 : Box (Run none S1.data.toList (turned its ((tls (vxs xs ls.length)).map escS)) tl) := ⟨by rw [HS1.out]; exact (page_turned pg.data.toList its tl HR.out (tls (vxs xs ls.length))).2⟩
          have HR2 : Box (Run none S2.data.toList (turned its ((tls (owns ls)).map escS)) tl) := ⟨by rw [HS2.out]; exact (page_turned pg.data.toList its tl HR.out (tls (owns ls))).2⟩
          go_wp2_with fail
          refine (links_any S1 w5 HG5.out (by omega) _ tl HR1.out).mono ?_
          rintro e w6 ⟨v6, ms, rfl, hO6, hms, hb6⟩
          obtain ⟨hml, hmv⟩ := vals_back its (vxs xs ls.length) (by rw [HVL.out]; exact HCN.out) ms hms
          obtain ⟨A6, cap6, hv6, hc6⟩ := hO6.len
          subst hv6
          have hb06 := hb05.trans (hb6.mono hb05.size)
          have HG6 := Box.mk ((HG.out.below hb06).up hb06.size)
          have HT6 := Box.mk (HT5.out.below hb6)
          rw [hml, HVL.out]
          have HO6 := Box.mk hO6
          have HMS := Box.mk hms
          have HML : Box (ms.length = ls.length) := ⟨by rw [hml, HVL.out]⟩
          have HMV := Box.mk hmv
          clear hO6 hms hml hmv
          go_wp2_with fail
          refine (links_any S2 w6 HG6.out (by omega) _ tl HR2.out).mono ?_
          rintro e w7 ⟨v7, os, rfl, hO7, hos, hb7⟩
          obtain ⟨hol7, hov⟩ := vals_back its (owns ls) (by rw [HOL.out]; exact HCN.out) os hos
          obtain ⟨A7, cap7, hv7, hc7⟩ := hO7.len
          subst hv7
          have hb07 := hb06.trans (hb7.mono hb06.size)
          have HG7 := Box.mk ((HG.out.below hb07).up hb07.size)
          have HT7 := Box.mk (HT6.out.below hb7)
          have HO67 := Box.mk (HO6.out.below hb7 (Nat.le_refl _))
          rw [hol7, HOL.out]
          have HO7 := Box.mk hO7
          have HOS : Box (os.length = ls.length) := ⟨by rw [hol7, HOL.out]⟩
          have HOV := Box.mk hov
          clear hO7 hos hol7 hov HO6 HT6 HT5 HT4 HT2
          have hb27 : Below w2.heap.size w2 w7 := (((hbw.trans (hb4.mono hbw.size)).trans (hb5.mono (Nat.le_trans hbw.size hb4.size))).trans (hb6.mono (Nat.le_trans (Nat.le_trans hbw.size hb4.size) hb5.size))).trans (hb7.mono (Nat.le_trans (Nat.le_trans (Nat.le_trans hbw.size hb4.size) hb5.size) hb6.size))
          have HL7 := Box.mk (HO2.out.below hb27 (Nat.le_refl _))
          have HTB : Box (TurnAt pg.data.toList S1.data.toList ((ls.drop 0).map lk2) ((ms.drop 0).map lk2) 0 0) := ⟨by
            rw [List.drop_zero, List.drop_zero, HLS.out, HMS.out, HS1.out]
            exact turn_begin _ tl its _ HPS.out⟩
          clear hb4 hb5 hb6 hb7 hbw HO2 HBV HBO hb27
          go_wp2
          go_loopg [18, 19, 20] ls.length (fun gf av bv iv wx => ∃ k a b : Nat, k ≤ ls.length ∧ av = .int .i64 a ∧ bv = .int .i64 b ∧ iv = .int .i64 k ∧ Box (TurnAt pg.data.toList S1.data.toList ((ls.drop k).map lk2) ((ms.drop k).map lk2) a b) ∧ Below w7.heap.size w7 wx ∧ ls.length - k ≤ gf)
          case atStart => exact ⟨0, 0, 0, Nat.zero_le _, rfl, rfl, rfl, HTB, Below.refl _ _, by omega⟩
          case round =>
            obtain ⟨k, a, b, hk, rfl, rfl, rfl, HTA, hbx, hgf⟩ := hrel
            clear HTB
            have hlt6 := HML.out
            by_cases hlt : k < ls.length
            · have HLT := Box.mk hlt
              have hm : k < ms.length := by omega
              have ho : k < os.length := by have := HOS.out; omega
              have hv : k < (vxs xs ls.length).length := by rw [HVL.out]; exact hlt
              have hw : k < (owns ls).length := by rw [HOL.out]; exact hlt
              have HLx := HL7.out.below hbx (Nat.le_refl _)
              have HMx := HO67.out.below hbx (Nat.le_refl _)
              have HOx := HO7.out.below hbx (Nat.le_refl _)
              have HTx := HT7.out.below hbx
              clear hlt6
              rcases HLx.shape with ⟨_, h0⟩ | ⟨g, cg, hg, -, hg2, -⟩
              · rw [h0] at hlt; exact absurd hlt (by simp)
              rcases HMx.shape with ⟨_, h0⟩ | ⟨g6, cg6, hg6, -, hg62, -⟩
              · rw [h0] at hm; exact absurd hm (by simp)
              rcases HOx.shape with ⟨_, h0⟩ | ⟨g7, cg7, hg7, -, hg72, -⟩
              · rw [h0] at ho; exact absurd ho (by simp)
              rcases HTx.o.shape with ⟨_, h0⟩ | ⟨g8, cg8, hg8, -, hg82, -, -, hc8'⟩
              · rw [h0] at hv; exact absurd hv (by simp)
              rcases HTx.c.shape with ⟨_, h0⟩ | ⟨g9, cg9, hg9, -, hg92, -, -, hc9'⟩
              · rw [h0] at hw; exact absurd hw (by simp)
              simp only [Value.slice.injEq] at hg hg6 hg7 hg8 hg9
              obtain ⟨rfl, -, rfl⟩ := hg
              obtain ⟨rfl, -, rfl⟩ := hg6
              obtain ⟨rfl, -, rfl⟩ := hg7
              obtain ⟨rfl, -, rfl⟩ := hg8
              obtain ⟨rfl, -, rfl⟩ := hg9
              obtain ⟨l0, l1, l2⟩ := HLx.cell k hlt
              obtain ⟨m0, m1, m2⟩ := HMx.cell k hm
              obtain ⟨o0, o1, o2⟩ := HOx.cell k ho
              have c8 := hc8' k hv
              have c9 := hc9' k hw
              rw [HMV.out k hm hv] at m2
              rw [HOV.out k ho hw] at o2
              have HTA1 := HTA.out
              rw [drop_atP lk2 ls k hlt, drop_atP lk2 ms k hm] at HTA1
              obtain ⟨r1, r2, r3, r4, r5, r6⟩ := turn_step HTA1
              rw [size_list] at r2 r4
              generalize (vxs xs ls.length)[k] = x at m2 c8
              generalize (owns ls)[k] = y at o2 c9
              obtain ⟨⟨p, n, V⟩, hlk⟩ : ∃ q, ls[k] = q := ⟨_, rfl⟩
              obtain ⟨⟨p', n', V'⟩, hmk⟩ : ∃ q, ms[k] = q := ⟨_, rfl⟩
              rw [hlk] at l0 l1 l2 r1 r2 r5 r6
              rw [hmk] at m0 m1 r3 r4 r5 r6
              simp only at r1 r2 r3 r4 r5 r6 l0 l1 m0 m1
              have HR5 : Box (nearS (pg.extract a p).data.toList (S1.extract b p').data.toList) := ⟨by rw [extract_list, extract_list]; exact r5⟩
              have HR6 := Box.mk r6
              clear r5 r6 HTA1 HTA hc8' hc9' HLx HMx HOx HTx hlk hmk o0 o1 l2 hm ho hv hw
              have k1 : (0 : Int) ≤ (a : Int) := by omega
              have k2 : (a : Int) ≤ (p : Int) := by omega
              have k3 : (p : Int) ≤ (pg.size : Int) := by omega
              have k4 : (0 : Int) ≤ (b : Int) := by omega
              have k5 : (b : Int) ≤ (p' : Int) := by omega
              have k6 : (p' : Int) ≤ (S1.size : Int) := by omega
              have k7 : (k : Int) < (ls.length : Int) := by omega
              have k8 : (0 : Int) ≤ (k : Int) := by omega
              go_wp2_with fail
              go_region
              go_wp2_with fail
              go_region
              have hXs : (pg.extract a p).size ≤ 1500 := by rw [← size_list, extract_list, List.length_take, List.length_drop, size_list]; omega
              generalize pg.extract a p = X at HR5 hXs ⊢
              generalize S1.extract b p' = Y at HR5 ⊢
              have z1 : ¬ 9223372036854775807 < X.size + 1 := by omega
              have z2 : ¬ 9223372036854775807 < 1 + X.size := by omega
              have z3 : ¬ 9223372036854775807 < 1 + X.size + 1 := by omega
              have k11 : (p : Int) + (n : Int) ≤ (pg.size : Int) := by omega
              have k12 : (p' : Int) + (n' : Int) ≤ (S1.size : Int) := by omega
              have hw1 : IntKind.i64.wrap ((p : Int) + (n : Int)) = (p : Int) + (n : Int) := by simp [IntKind.wrap, IntKind.bits, IntKind.signed]; omega
              have hw2 : IntKind.i64.wrap ((p' : Int) + (n' : Int)) = (p' : Int) + (n' : Int) := by simp [IntKind.wrap, IntKind.bits, IntKind.signed]; omega
              have hbx2 := hbx.drew.drew.drew
              by_cases e1 : X.toList = Y.toList
              · go_wp2_with fail
                go_region
                go_wp2
                go_roundg (ls.length - (k + 1))
                case measure => have := HLT.out; omega
                case rel => exact ⟨k + 1, p + n, p' + n', HLT.out, by go_num, by go_num, by go_num, HR6, hbx2, by have := HLT.out; omega⟩
              by_cases e2 : (X ++ (⟨#[34]⟩ : ByteArray)).toList = Y.toList
              · go_wp2_with fail
                go_region
                go_wp2
                go_roundg (ls.length - (k + 1))
                case measure => have := HLT.out; omega
                case rel => exact ⟨k + 1, p + n, p' + n', HLT.out, by go_num, by go_num, by go_num, HR6, hbx2, by have := HLT.out; omega⟩
              by_cases e3 : ((⟨#[34]⟩ : ByteArray) ++ X).toList = Y.toList
              · go_wp2_with fail
                go_region
                go_wp2
                go_roundg (ls.length - (k + 1))
                case measure => have := HLT.out; omega
                case rel => exact ⟨k + 1, p + n, p' + n', HLT.out, by go_num, by go_num, by go_num, HR6, hbx2, by have := HLT.out; omega⟩
              have e4 : ((⟨#[34]⟩ : ByteArray) ++ X ++ (⟨#[34]⟩ : ByteArray)).toList = Y.toList := by
                rcases HR5.out with h | h | h | h
                · exact absurd (by rw [ByteArray.toList_eq, ByteArray.toList_eq]; exact h.symm) e1
                · exact absurd (by rw [ByteArray.toList_eq, ByteArray.toList_eq, ByteArray.data_append, Array.toList_append]; exact h.symm) e2
                · exact absurd (by rw [ByteArray.toList_eq, ByteArray.toList_eq, ByteArray.data_append, Array.toList_append]; exact h.symm) e3
                · rw [ByteArray.toList_eq, ByteArray.toList_eq, ByteArray.data_append, Array.toList_append, ByteArray.data_append, Array.toList_append]; exact h.symm
              go_wp2_with fail
              go_region
              go_wp2
              go_roundg (ls.length - (k + 1))
              case measure => have := HLT.out; omega
              case rel => exact ⟨k + 1, p + n, p' + n', HLT.out, by go_num, by go_num, by go_num, HR6, hbx2, by have := HLT.out; omega⟩
            · have hkl : k = ls.length := by omega
              have HE := Box.mk (turn_end (s := pg.data.toList) (t := S1.data.toList) (mks := (ms.drop k).map lk2) (a := a) (b := b) (by
                have h := HTA.out
                have hnil : ls.drop ls.length = [] := List.drop_of_length_le (Nat.le_refl _)
                rw [hkl, hnil] at h
                rw [hkl]
                exact h))
              obtain ⟨_, ea, eb, ec⟩ := HE.out
              rw [size_list] at ea eb ec
              rw [size_list] at ec
              have hbxx : Below w0.heap.size w0 wr := hb07.trans (hbx.mono hb07.size)
              have HGx := Box.mk ((HG.out.below hbxx).up hbxx.size)
              have HTx := Box.mk (HT7.out.below hbx)
              have HO2 : Box (outP (turned its ((tls (owns ls)).map escS)) ((tls (owns ls)).map escS) tl = S2.data.toList) := ⟨by rw [out_turned, HS2.out]⟩
              clear HTA hkl hk
              go_wp2_with fail
              refine (replace_n S2 A9 ls.length cap9 (owns ls) HOL.out.symm wr HGx.out (by omega) _ tl HR2.out HTx.out.c.tl (fun x hx => by have := HOw.out x hx; omega) (by rw [HOL.out, count_turned]; exact HCN.out) (by rw [HO2.out, size_list]; omega)).mono ?_
              rw [HO2.out]
              rintro e w8 ⟨S3, rfl, hS3, hb8⟩
              have hS32 := bytes_eq hS3
              subst hS32
              have hb08 := hbxx.trans (hb8.mono hbxx.size)
              have HSF : Box (Lib.hasSuffix (S1.extract b S1.size).data.toList (pg.extract a pg.size).data.toList = true) := ⟨by
                rw [extract_list, extract_list, List.take_of_length_le (by rw [List.length_drop, size_list]; exact Nat.le_refl _), List.take_of_length_le (by rw [List.length_drop, size_list]; exact Nat.le_refl _)]
                exact HE.out.1⟩
              clear hS3 HE
              have k1 : (0 : Int) ≤ (a : Int) := by omega
              have k2 : (a : Int) ≤ (pg.size : Int) := by omega
              have k3 : (0 : Int) ≤ (b : Int) := by omega
              have k4 : (b : Int) ≤ (S1.size : Int) := by omega
              have hw3 : IntKind.i64.wrap ((S1.size : Int) - (b : Int)) = (S1.size : Int) - (b : Int) := by simp [IntKind.wrap, IntKind.bits, IntKind.signed]; omega
              have hw4 : IntKind.i64.wrap ((pg.size : Int) - (a : Int)) = (pg.size : Int) - (a : Int) := by simp [IntKind.wrap, IntKind.bits, IntKind.signed]; omega
              have hw5 : IntKind.i64.wrap ((S1.size : Int) - (b : Int) - ((pg.size : Int) - (a : Int))) = (S1.size : Int) - (b : Int) - ((pg.size : Int) - (a : Int)) := by simp [IntKind.wrap, IntKind.bits, IntKind.signed]; omega
              have k9 : (S1.size : Int) - (b : Int) - ((pg.size : Int) - (a : Int)) ≤ 1 := by omega
              clear HTx HGx HO7 HO67 HT7 HL7 HG HX hbx
              go_wp2_with fail
              go_region_held3 (fun w' => Below w8.heap.size w8 w')
                ((first | exact (Below.refl _ _).drew | assumption))
                (first
                  | (go_at_call 7; refine (Go.Proofs.Sx.Tryd.strings_HasSuffix _ _ _ (by simp; omega)).mono ?_; rw [HSF.out]; rintro e w9 ⟨rfl, rfl⟩))
              all_goals
                go_wp2
                go_ret
                exact ⟨rfl, hb08.drew⟩

end Go.Proofs.YtkmkhfgoihfkjaaDoor
