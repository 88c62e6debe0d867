import Derived.Test.YtkmkhfgoihfkjaaDoorZL2
namespace Go.Proofs.YtkmkhfgoihfkjaaDoor
open Go.RowKit

def ampA : ByteArray := ⟨#[38, 97, 109, 112, 59]⟩
def quotA : ByteArray := ⟨#[38, 113, 117, 111, 116, 59]⟩
def aposA : ByteArray := ⟨#[38, 35, 51, 57, 59]⟩
def ltA : ByteArray := ⟨#[38, 108, 116, 59]⟩
def gtA : ByteArray := ⟨#[38, 103, 116, 59]⟩
def wordsL : List (UInt8 × ByteArray) := [(38, ampA), (34, quotA), (39, aposA), (60, ltA), (62, gtA)]
def wdV (x : UInt8 × ByteArray) : Value := .agg #[.int .u8 (x.1.toNat : Int), .string x.2]
structure Words (w : World) : Prop where
  c0 : w.cell? ⟨2, 0, none⟩ = some (.int .u8 38)
  c1 : w.cell? ⟨2, 1, none⟩ = some (.string ampA)
  c2 : w.cell? ⟨2, 2, none⟩ = some (.int .u8 34)
  c3 : w.cell? ⟨2, 3, none⟩ = some (.string quotA)
  c4 : w.cell? ⟨2, 4, none⟩ = some (.int .u8 39)
  c5 : w.cell? ⟨2, 5, none⟩ = some (.string aposA)
  c6 : w.cell? ⟨2, 6, none⟩ = some (.int .u8 60)
  c7 : w.cell? ⟨2, 7, none⟩ = some (.string ltA)
  c8 : w.cell? ⟨2, 8, none⟩ = some (.int .u8 62)
  c9 : w.cell? ⟨2, 9, none⟩ = some (.string gtA)
theorem idx5 (k : Nat) (h : k < 5) : ∃ x, wordsL[k]? = some x ∧ ∀ w : World, (Instr.index 65 (.agg #[.int .u8 38, .string ampA, .int .u8 34, .string quotA, .int .u8 39, .string aposA, .int .u8 60, .string ltA, .int .u8 62, .string gtA]) (.int .i64 (k : Int))).run Tryd.prog w = .ok (.agg #[.int .u8 (x.1.toNat : Int), .string x.2]) w := by
  obtain rfl | rfl | rfl | rfl | rfl : k = 0 ∨ k = 1 ∨ k = 2 ∨ k = 3 ∨ k = 4 := by omega
  · exact ⟨_, rfl, fun w => by kernel_rfl⟩
  · exact ⟨_, rfl, fun w => by kernel_rfl⟩
  · exact ⟨_, rfl, fun w => by kernel_rfl⟩
  · exact ⟨_, rfl, fun w => by kernel_rfl⟩
  · exact ⟨_, rfl, fun w => by kernel_rfl⟩
/-- What find tells. -/
def findV : Option (UInt8 × ByteArray) → Value
  | some x => .tuple #[.agg #[.int .u8 (x.1.toNat : Int), .string x.2], .bool true]
  | none => .tuple #[.agg #[.int .u8 0, .string ⟨#[]⟩], .bool false]
theorem find_drop_no {p : UInt8 × ByteArray → Bool} (k : Nat) (x : UInt8 × ByteArray) (h : wordsL[k]? = some x) (hp : p x = false) : (wordsL.drop k).find? p = (wordsL.drop (k + 1)).find? p := by
  obtain ⟨hk, e⟩ := List.getElem?_eq_some_iff.1 h
  rw [List.drop_eq_getElem_cons hk, e, List.find?_cons_of_neg (by rw [hp]; simp)]
theorem find_drop_yes {p : UInt8 × ByteArray → Bool} (k : Nat) (x : UInt8 × ByteArray) (h : wordsL[k]? = some x) (hp : p x = true) : (wordsL.drop k).find? p = some x := by
  obtain ⟨hk, e⟩ := List.getElem?_eq_some_iff.1 h
  rw [List.drop_eq_getElem_cons hk, e, List.find?_cons_of_pos hp]
theorem alloc_new (w : World) (o : Obj) : (w.alloc o).heap[w.heap.size]? = some o := by
  have e : (w.alloc o).heap = w.heap.push o := rfl
  rw [e]
  simp
theorem obj2_of {w : World} {b : Nat} {u v : Value} {T : TypeId} (h : w.heap[b]? = some (.cells #[u, v] T (0, 0))) : w.cell? ⟨b, 0, none⟩ = some u ∧ w.cell? ⟨b, 1, none⟩ = some v ∧ w.frozen? ⟨b, 0, none⟩ = false ∧ w.frozen? ⟨b, 1, none⟩ = false ∧ b < w.heap.size :=
  ⟨by simp [World.cell?, h], by simp [World.cell?, h], by simp [World.frozen?, h], by simp [World.frozen?, h], (Array.getElem?_eq_some_iff.1 h).1⟩

set_option maxHeartbeats 100000000 in
set_option maxRecDepth 100000 in
theorem findEsc (x1 x2 : Value) (p : UInt8 × ByteArray → Bool) (w : World) (hW : Words w)
    (hc : ∀ (x : UInt8 × ByteArray) (w1 : World), Below w.heap.size w w1 → Calls Tryd.prog 31 #[.agg #[.int .u8 (x.1.toNat : Int), .string x.2], x1, x2] w1 fun e w2 => e = .returned (.bool (p x)) ∧ Below w1.heap.size w1 w2) :
    Calls Tryd.prog 30 #[.func (.func 31) #[] #[x1, x2]] w fun e w' => e = .returned (findV (wordsL.find? p)) ∧ Below w.heap.size w w' := by
  obtain ⟨c0, c1, c2, c3, c4, c5, c6, c7, c8, c9⟩ := hW
  obtain ⟨F, HF⟩ : ∃ F, Box (wordsL.find? p = F) := ⟨_, ⟨rfl⟩⟩
  rw [HF.out]
  have hlt := World.block_lt_of_cell? w _ c0
  have HC := Box.mk hc
  clear hc
  go_enter Tryd.func30, Tryd.ntmps30
  go_wp2
  clear c0 c1 c2 c3 c4 c5 c6 c7 c8 c9
  go_loopg [7] 5 (fun gf i wx => ∃ k : Nat, k ≤ 5 ∧ i = .int .i64 k ∧ Box ((wordsL.drop k).find? p = F) ∧ Below (w.heap.size + 1) (w.alloc (.cells #[.int .u8 0, .string ⟨#[]⟩] 55)) wx ∧ 5 - k ≤ gf)
  case atStart => exact ⟨0, by omega, rfl, HF, Below.refl _ _, by omega⟩
  case round =>
    obtain ⟨k, hk, rfl, HT, hb, hgf⟩ := hrel
    clear HF
    have hbw : Below w.heap.size w wr := ((Below.refl _ _).alloc (Nat.le_refl _) _).trans (hb.mono (by omega))
    have hsz : w.heap.size + 1 ≤ wr.heap.size := by have := hb.size; simpa using this
    have HB0 := Box.mk ((hb.block w.heap.size (by omega)).trans (alloc_new w _))
    by_cases hk5 : k < 5
    · obtain ⟨x, hx, ix⟩ := idx5 k hk5
      have HX := Box.mk hx
      clear hx
      have hbA : Below w.heap.size w (wr.alloc (.cells #[.int .u8 (x.1.toNat : Int), .string x.2] 55)) := hbw.alloc (by omega) _
      have HCL := Box.mk (HC.out x _ hbA)
      cases hq : p x
      · have HT' : Box ((wordsL.drop (k + 1)).find? p = F) := ⟨by rw [← HT.out, find_drop_no k x HX.out hq]⟩
        rw [hq] at HCL
        clear HT HX HC hq
        go_wp2_with fail
        refine HCL.out.mono ?_
        rintro e w2 ⟨rfl, hb2⟩
        clear HCL
        go_wp2
        go_roundg (5 - (k + 1))
        case measure => omega
        case rel => exact ⟨k + 1, by omega, by go_num, HT', (hb.alloc (by omega) _).trans (hb2.mono (by simp; omega)), by omega⟩
      · have HT' : Box (F = some x) := ⟨by rw [← HT.out, find_drop_yes k x HX.out hq]⟩
        rw [hq] at HCL
        clear HT HX HC hq
        go_wp2_with fail
        refine HCL.out.mono ?_
        rintro e w2 ⟨rfl, hb2⟩
        clear HCL
        obtain ⟨y0, y1, y2, y3, y4⟩ := obj2_of ((hb2.block w.heap.size (by simp; omega)).trans ((Below.heap_alloc wr _ _ (by omega)).trans HB0.out))
        obtain ⟨z0, z1, z2, z3, z4⟩ := obj2_of ((hb2.block wr.heap.size (by simp)).trans (alloc_new wr _))
        have hbE : Below w.heap.size w w2 := hbA.trans (hb2.mono (by simp; omega))
        go_wp2
        have := HT'.out
        subst this
        refine bodyPost_ret (v := .tuple #[.agg #[.int .u8 (x.1.toNat : Int), .string x.2], .bool true]) (by simp [results, Tryd.results30, go_sem, y0, y1]) rfl ⟨rfl, ?_⟩
        iterate 2 (refine Below.setCell ?_ (by simp) _)
        exact hbE
    · have HT' : Box (F = none) := ⟨by rw [← HT.out, List.drop_of_length_le (by show 5 ≤ k; omega)]; rfl⟩
      obtain ⟨y0, y1, y2, y3, y4⟩ := obj2_of HB0.out
      clear HT HC
      go_wp2
      have := HT'.out
      subst this
      refine bodyPost_ret (v := .tuple #[.agg #[.int .u8 0, .string ⟨#[]⟩], .bool false]) (by simp [results, Tryd.results30, go_sem, y0, y1]) rfl ⟨rfl, ?_⟩
      iterate 2 (refine Below.setCell ?_ (by simp) _)
      exact hbw

set_option maxHeartbeats 100000000 in
set_option maxRecDepth 100000 in
theorem findSaid (x1 x2 : Value) (p : UInt8 × ByteArray → Bool) (w : World) (hW : Words w)
    (hc : ∀ (x : UInt8 × ByteArray) (w1 : World), Below w.heap.size w w1 → Calls Tryd.prog 42 #[.agg #[.int .u8 (x.1.toNat : Int), .string x.2], x1, x2] w1 fun e w2 => e = .returned (.bool (p x)) ∧ Below w1.heap.size w1 w2) :
    Calls Tryd.prog 30 #[.func (.func 42) #[] #[x1, x2]] w fun e w' => e = .returned (findV (wordsL.find? p)) ∧ Below w.heap.size w w' := by
  obtain ⟨c0, c1, c2, c3, c4, c5, c6, c7, c8, c9⟩ := hW
  obtain ⟨F, HF⟩ : ∃ F, Box (wordsL.find? p = F) := ⟨_, ⟨rfl⟩⟩
  rw [HF.out]
  have hlt := World.block_lt_of_cell? w _ c0
  have HC := Box.mk hc
  clear hc
  go_enter Tryd.func30, Tryd.ntmps30
  go_wp2
  clear c0 c1 c2 c3 c4 c5 c6 c7 c8 c9
  go_loopg [7] 5 (fun gf i wx => ∃ k : Nat, k ≤ 5 ∧ i = .int .i64 k ∧ Box ((wordsL.drop k).find? p = F) ∧ Below (w.heap.size + 1) (w.alloc (.cells #[.int .u8 0, .string ⟨#[]⟩] 55)) wx ∧ 5 - k ≤ gf)
  case atStart => exact ⟨0, by omega, rfl, HF, Below.refl _ _, by omega⟩
  case round =>
    obtain ⟨k, hk, rfl, HT, hb, hgf⟩ := hrel
    clear HF
    have hbw : Below w.heap.size w wr := ((Below.refl _ _).alloc (Nat.le_refl _) _).trans (hb.mono (by omega))
    have hsz : w.heap.size + 1 ≤ wr.heap.size := by have := hb.size; simpa using this
    have HB0 := Box.mk ((hb.block w.heap.size (by omega)).trans (alloc_new w _))
    by_cases hk5 : k < 5
    · obtain ⟨x, hx, ix⟩ := idx5 k hk5
      have HX := Box.mk hx
      clear hx
      have hbA : Below w.heap.size w (wr.alloc (.cells #[.int .u8 (x.1.toNat : Int), .string x.2] 55)) := hbw.alloc (by omega) _
      have HCL := Box.mk (HC.out x _ hbA)
      cases hq : p x
      · have HT' : Box ((wordsL.drop (k + 1)).find? p = F) := ⟨by rw [← HT.out, find_drop_no k x HX.out hq]⟩
        rw [hq] at HCL
        clear HT HX HC hq
        go_wp2_with fail
        refine HCL.out.mono ?_
        rintro e w2 ⟨rfl, hb2⟩
        clear HCL
        go_wp2
        go_roundg (5 - (k + 1))
        case measure => omega
        case rel => exact ⟨k + 1, by omega, by go_num, HT', (hb.alloc (by omega) _).trans (hb2.mono (by simp; omega)), by omega⟩
      · have HT' : Box (F = some x) := ⟨by rw [← HT.out, find_drop_yes k x HX.out hq]⟩
        rw [hq] at HCL
        clear HT HX HC hq
        go_wp2_with fail
        refine HCL.out.mono ?_
        rintro e w2 ⟨rfl, hb2⟩
        clear HCL
        obtain ⟨y0, y1, y2, y3, y4⟩ := obj2_of ((hb2.block w.heap.size (by simp; omega)).trans ((Below.heap_alloc wr _ _ (by omega)).trans HB0.out))
        obtain ⟨z0, z1, z2, z3, z4⟩ := obj2_of ((hb2.block wr.heap.size (by simp)).trans (alloc_new wr _))
        have hbE : Below w.heap.size w w2 := hbA.trans (hb2.mono (by simp; omega))
        go_wp2
        have := HT'.out
        subst this
        refine bodyPost_ret (v := .tuple #[.agg #[.int .u8 (x.1.toNat : Int), .string x.2], .bool true]) (by simp [results, Tryd.results30, go_sem, y0, y1]) rfl ⟨rfl, ?_⟩
        iterate 2 (refine Below.setCell ?_ (by simp) _)
        exact hbE
    · have HT' : Box (F = none) := ⟨by rw [← HT.out, List.drop_of_length_le (by show 5 ≤ k; omega)]; rfl⟩
      obtain ⟨y0, y1, y2, y3, y4⟩ := obj2_of HB0.out
      clear HT HC
      go_wp2
      have := HT'.out
      subst this
      refine bodyPost_ret (v := .tuple #[.agg #[.int .u8 0, .string ⟨#[]⟩], .bool false]) (by simp [results, Tryd.results30, go_sem, y0, y1]) rfl ⟨rfl, ?_⟩
      iterate 2 (refine Below.setCell ?_ (by simp) _)
      exact hbw

end Go.Proofs.YtkmkhfgoihfkjaaDoor
