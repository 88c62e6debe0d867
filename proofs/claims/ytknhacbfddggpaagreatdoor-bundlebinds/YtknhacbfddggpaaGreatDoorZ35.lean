import Derived.Test.YtknhacbfddggpaaGreatDoorZ4
import Derived.Test.YtknhacbfddggpaaGreatDoorZ9
import Derived.Test.YtknhacbfddggpaaGreatDoorZ20
import Derived.Test.YtknhacbfddggpaaGreatDoorZB0
import Derived.Test.YtknhacbfddggpaaGreatDoorZShelfP
import Derived.Deep.LoopGhost
import Derived.Deep.RegionLaw
import Derived.Deep.RegionHeld3
import Derived.Deep.RegionWith
import Derived.Maps.AppendAt
import Derived.Lib.IndexBytes
namespace Go.Proofs.YtknhacbfddggpaaGreatDoor
open Go.RowKit Go.Proofs.Px
def PR (w:World) (b:Nat) (pg sm:ByteArray) (a:Nat) (L:Value):Prop:=w.heap[b]? = some (.cells #[.string pg,.string sm,.int .i64 (a:Int),L] 174 (0,0))
theorem PR.cells {w:World} {b a:Nat} {pg sm:ByteArray} {L:Value} (h:PR w b pg sm a L):w.cell? ⟨b,0,none⟩ = some (.string pg)∧w.cell? ⟨b,1,none⟩ = some (.string sm)∧w.cell? ⟨b,2,none⟩ = some (.int .i64 (a:Int))∧w.cell? ⟨b,3,none⟩ = some L∧w.frozen? ⟨b,2,none⟩ = false∧w.frozen? ⟨b,3,none⟩ = false∧b < w.heap.size:=by
 have h':w.heap[b]? = _:=h
 refine ⟨by simp [World.cell?,h'],by simp [World.cell?,h'],by simp [World.cell?,h'],by simp [World.cell?,h'],by simp [World.frozen?,h'],by simp [World.frozen?,h'],(Array.getElem?_eq_some_iff.1 h').1⟩
theorem PR.setA {w:World} {b a:Nat} {pg sm:ByteArray} {L:Value} (h:PR w b pg sm a L) (k:Nat):PR (w.setCell ⟨b,2,none⟩ (.int .i64 (k:Int))) b pg sm k L:=by
 unfold PR
 rw [setCell_eq_setRow w b 2 _ _ _ _ h]
 exact setRow_heap w b _ _ _ _ h
theorem PR.setL {w:World} {b a:Nat} {pg sm:ByteArray} {L:Value} (h:PR w b pg sm a L) (M:Value):PR (w.setCell ⟨b,3,none⟩ M) b pg sm a M:=by
 unfold PR
 rw [setCell_eq_setRow w b 3 _ _ _ _ h]
 exact setRow_heap w b _ _ _ _ h
theorem PR.below {w w':World} {b a C:Nat} {pg sm:ByteArray} {L:Value} (h:PR w b pg sm a L) (hb:Below C w w') (hC:b < C):PR w' b pg sm a L:=(hb.block b hC).trans h
theorem pgrown_set (w:World) (b k:Nat) (v:Value):w.grownBy (w.setCell ⟨b,k,none⟩ v) (some b):=
 ⟨rfl,rfl,rfl,by simp,fun k' _ hk=>heap_setCell_other w ⟨b,k,none⟩ k' v (fun e=>hk (by rw [e]))⟩
theorem pgrown_of {w w':World} (h:Below w.heap.size w w') (row:Option Nat):w.grownBy w' row:=⟨h.os,h.tape,h.output,h.size,fun i hi _=>h.block i hi⟩
theorem pgrown_refl (w:World) (row:Option Nat):w.grownBy w row:=⟨rfl,rfl,rfl,Nat.le_refl _,fun _ _ _=>rfl⟩
set_option maxHeartbeats 800000 in
theorem atEnd_any (b a:Nat) (pg sm:ByteArray) (L:Value) (w:World) (h:PR w b pg sm a L) :
  Calls Tryz.prog 196 #[.pointer (some ⟨b,0,none⟩)] w fun e w'=>e = .returned (.bool (decide (a = pg.size)))∧w' = w.drew:=by
 obtain ⟨c0,c1,c2,c3,f2,f3,hb⟩:=h.cells
 clear h
 obtain ⟨q,HQ⟩:∃ q,Box (((a:Int) == (pg.size:Int)) = q):=⟨_,⟨rfl⟩⟩
 go_enter Tryz.func196,Tryz.ntmps196
 go_wp2
 go_region
 go_wp2
 go_ret
 exact ⟨ret_bool (by rw [Bool.eq_iff_iff]; simp; try omega),rfl⟩
def isAtB (set sm:ByteArray) (a:Nat):Bool:=(sm.data.toList.drop a).head?.any fun c=>set.data.toList.contains c
theorem idx_has (l:List UInt8) (c:UInt8):decide (0 ≤ Lib.indexByte l c) = l.contains c:=by
 rcases find_byte l c with ⟨h1,h2⟩ | ⟨x,y,h1,h2,h3⟩
 ·rw [h1]
  symm
  have:c ∉ l:=fun h=>h2 c h rfl
  simpa using this
 ·rw [h3,h1]
  simp
theorem idx_at (set sm:ByteArray) (a:Nat) (h:a < sm.size) (w:World):Calls Tryz.prog 132 #[.string set,.int .u8 (sm[a].toNat:Int)] w fun e w'=>e = .returned (.int .i64 (Lib.indexByte set.data.toList sm[a]))∧w' = w:=by
 refine (Tryz.strings_IndexByte _ _ w).mono ?_
 rintro e w' ⟨rfl,rfl⟩
 refine ⟨?_,rfl⟩
 congr 4
 simp
theorem isAt_val (set sm:ByteArray) (a:Nat) (h:a < sm.size):isAtB set sm a = decide (0 ≤ Lib.indexByte set.data.toList sm[a]):=by
 unfold isAtB
 rw [List.head?_drop,getL sm a h,idx_has]
 rfl
theorem isAt_end (set sm:ByteArray) (a:Nat) (h:sm.size ≤ a):isAtB set sm a = false:=by
 unfold isAtB
 rw [List.head?_drop,List.getElem?_eq_none (by rw [size_list]; exact h)]
 rfl
theorem pkeep3 {W w':World} {p q r:Addr} {u v x:Value} (h0:W.cell? p = some u) (h1:W.cell? q = some v) (h2:W.cell? r = some x) (hb:Below W.heap.size W w'):w'.cell? p = some u∧w'.cell? q = some v∧w'.cell? r = some x∧Below W.heap.size W w':=
 ⟨(hb.cell (p:=p) (World.block_lt_of_cell? W _ h0)).trans h0,(hb.cell (p:=q) (World.block_lt_of_cell? W _ h1)).trans h1,(hb.cell (p:=r) (World.block_lt_of_cell? W _ h2)).trans h2,hb⟩
set_option maxHeartbeats 800000 in
theorem isAt_any (b a:Nat) (pg sm set:ByteArray) (L:Value) (w:World) (h:PR w b pg sm a L) (hs:sm.size = pg.size) (ha:a ≤ pg.size) :
  Calls Tryz.prog 154 #[.pointer (some ⟨b,0,none⟩),.string set] w fun e w'=>e = .returned (.bool (isAtB set sm a))∧Below w.heap.size w w':=by
 obtain ⟨c0,c1,c2,c3,f2,f3,hb⟩:=h.cells
 have HP:=Box.mk h
 clear h
 obtain ⟨q,HQ⟩:∃ q,Box (isAtB set sm a = q):=⟨_,⟨rfl⟩⟩
 rw [HQ.out]
 by_cases hlt:a < pg.size
 ·have hd:decide (a = pg.size) = false:=decide_eq_false (by omega)
  have hlt':a < sm.size:=by omega
  have HZ:Box (decide (0 ≤ Lib.indexByte set.data.toList sm[a]) = q):=⟨by rw [← HQ.out,isAt_val set sm a hlt']⟩
  have HX:=Box.mk (idx_at set sm a hlt')
  obtain ⟨z,hz⟩:∃ z,Lib.indexByte set.data.toList sm[a] = z:=⟨_,rfl⟩
  rw [hz] at HZ HX
  clear hz HQ
  go_enter Tryz.func154,Tryz.ntmps154
  go_wp2_with fail
  go_region_held3 (fun w'=>w'.cell? ⟨b,0,none⟩ = some (.string pg)∧w'.cell? ⟨b,1,none⟩ = some (.string sm)∧w'.cell? ⟨b,2,none⟩ = some (.int .i64 (a:Int))∧Below w.heap.size w w')
   ((go_split_ands; exact pkeep3 c0 c1 c2 (by first | exact (Below.refl _ _).drew | exact Below.drew (by assumption) | assumption)))
   (first
    | (go_at_call 196; refine (atEnd_any b a pg sm L _ (HP.out.below (by first | exact (Below.refl _ _).drew | assumption) hb)).mono ?_; rw [hd]; rintro e w5 ⟨rfl,rfl⟩)
    | (go_at_call 132; refine (HX.out _).mono ?_; rintro e w6 ⟨rfl,rfl⟩))
  all_goals
   go_wp2
   go_ret
   exact ⟨ret_bool HZ.out,by first | assumption | exact Below.drew (by assumption) | exact ((Below.refl _ _).drew).drew⟩
 ·have hd:decide (a = pg.size) = true:=decide_eq_true (by omega)
  have HZ:Box (q = false):=⟨by rw [← HQ.out,isAt_end set sm a (by omega)]⟩
  clear HQ
  go_enter Tryz.func154,Tryz.ntmps154
  go_wp2_with fail
  refine wp_region_held_drew (S:=fun w'=>Below w.heap.size w w') (by kernel_rfl) (Below.refl _ _).drew (fun hS=>?_)
  refine wpAnyH_take (i:=0) (v:=_) rfl (by kernel_rfl) (by kernel_rfl) (by kernel_rfl) (fun _ _ _ h=>h) (Or.inl ⟨by rfl,fun _ _=>rfl⟩) hS ?_
  simp only [Act.put,List.setIfInBounds_toArray,List.set_cons_zero,List.set_cons_succ,List.getElem_toArray,List.getElem_cons_zero]
  refine wpAnyH_ready (rs:=[1]) (by kernel_rfl) (by simp) (AllReadyH.cons rfl (fun K hK=>?_) AllReadyH.nil)
  rw [if_pos (by rfl)]
  go_wp2_with (go_at_call 196; refine (atEnd_any b a pg sm L _ (HP.out.below hS hb)).mono ?_; rw [hd]; rintro e w5 ⟨rfl,rfl⟩)
  refine hK.out _ _ hS.drew (fun hS=>?_)
  clear hK
  refine wpAnyH_take (i:=2) (v:=_) rfl (by kernel_rfl) (by kernel_rfl) (by kernel_rfl) (fun _ _ _ h=>h) (Or.inl ⟨by rfl,fun _ _=>rfl⟩) hS ?_
  simp only [Act.put,List.setIfInBounds_toArray,List.set_cons_zero,List.set_cons_succ,List.getElem_toArray,List.getElem_cons_zero,List.getElem_cons_succ]
  refine wpAnyH_take (i:=3) (v:=_) rfl (by kernel_rfl) (by kernel_rfl) (by kernel_rfl) (fun _ _ _ h=>h) (Or.inl ⟨by rfl,fun _ _=>rfl⟩) hS ?_
  simp only [Act.put,List.setIfInBounds_toArray,List.set_cons_zero,List.set_cons_succ,List.getElem_toArray,List.getElem_cons_zero,List.getElem_cons_succ]
  refine wpAnyH_take (i:=4) (v:=undef) rfl (by kernel_rfl) (by kernel_rfl) (by kernel_rfl) (fun _ _ _ h=>h) (Or.inr ⟨by rfl,rfl⟩) hS ?_
  simp only [Act.put,List.setIfInBounds_toArray,List.set_cons_zero,List.set_cons_succ,List.getElem_toArray,List.getElem_cons_zero,List.getElem_cons_succ]
  refine wpAnyH_take (i:=5) (v:=undef) rfl (by kernel_rfl) (by kernel_rfl) (by kernel_rfl) (fun _ _ _ h=>h) (Or.inr ⟨by rfl,rfl⟩) hS ?_
  simp only [Act.put,List.setIfInBounds_toArray,List.set_cons_zero,List.set_cons_succ,List.getElem_toArray,List.getElem_cons_zero,List.getElem_cons_succ]
  refine wpAnyH_take (i:=6) (v:=undef) rfl (by kernel_rfl) (by kernel_rfl) (by kernel_rfl) (fun _ _ _ h=>h) (Or.inr ⟨by rfl,rfl⟩) hS ?_
  simp only [Act.put,List.setIfInBounds_toArray,List.set_cons_zero,List.set_cons_succ,List.getElem_toArray,List.getElem_cons_zero,List.getElem_cons_succ]
  refine wpAnyH_take (i:=7) (v:=undef) rfl (by kernel_rfl) (by kernel_rfl) (by kernel_rfl) (fun _ _ _ h=>h) (Or.inr ⟨by rfl,rfl⟩) hS ?_
  simp only [Act.put,List.setIfInBounds_toArray,List.set_cons_zero,List.set_cons_succ,List.getElem_toArray,List.getElem_cons_zero,List.getElem_cons_succ]
  refine wpAnyH_take (i:=8) (v:=undef) rfl (by kernel_rfl) (by kernel_rfl) (by kernel_rfl) (fun _ _ _ h=>h) (Or.inr ⟨by rfl,rfl⟩) hS ?_
  simp only [Act.put,List.setIfInBounds_toArray,List.set_cons_zero,List.set_cons_succ,List.getElem_toArray,List.getElem_cons_zero,List.getElem_cons_succ]
  refine wpAnyH_take (i:=9) (v:=undef) rfl (by kernel_rfl) (by kernel_rfl) (by kernel_rfl) (fun _ _ _ h=>h) (Or.inr ⟨by rfl,rfl⟩) hS ?_
  simp only [Act.put,List.setIfInBounds_toArray,List.set_cons_zero,List.set_cons_succ,List.getElem_toArray,List.getElem_cons_zero,List.getElem_cons_succ]
  refine wpAnyH_take (i:=10) (v:=undef) rfl (by kernel_rfl) (by kernel_rfl) (by kernel_rfl) (fun _ _ _ h=>h) (Or.inr ⟨by rfl,rfl⟩) hS ?_
  simp only [Act.put,List.setIfInBounds_toArray,List.set_cons_zero,List.set_cons_succ,List.getElem_toArray,List.getElem_cons_zero,List.getElem_cons_succ]
  refine wpAnyH_take (i:=11) (v:=undef) rfl (by kernel_rfl) (by kernel_rfl) (by kernel_rfl) (fun _ _ _ h=>h) (Or.inr ⟨by rfl,rfl⟩) hS ?_
  simp only [Act.put,List.setIfInBounds_toArray,List.set_cons_zero,List.set_cons_succ,List.getElem_toArray,List.getElem_cons_zero,List.getElem_cons_succ]
  refine wpAnyH_take (i:=12) (v:=undef) rfl (by kernel_rfl) (by kernel_rfl) (by kernel_rfl) (fun _ _ _ h=>h) (Or.inr ⟨by rfl,rfl⟩) hS ?_
  simp only [Act.put,List.setIfInBounds_toArray,List.set_cons_zero,List.set_cons_succ,List.getElem_toArray,List.getElem_cons_zero,List.getElem_cons_succ]
  refine wpAnyH_take (i:=13) (v:=undef) rfl (by kernel_rfl) (by kernel_rfl) (by kernel_rfl) (fun _ _ _ h=>h) (Or.inr ⟨by rfl,rfl⟩) hS ?_
  simp only [Act.put,List.setIfInBounds_toArray,List.set_cons_zero,List.set_cons_succ,List.getElem_toArray,List.getElem_cons_zero,List.getElem_cons_succ]
  refine wpAnyH_take (i:=14) (v:=undef) rfl (by kernel_rfl) (by kernel_rfl) (by kernel_rfl) (fun _ _ _ h=>h) (Or.inr ⟨by rfl,rfl⟩) hS ?_
  simp only [Act.put,List.setIfInBounds_toArray,List.set_cons_zero,List.set_cons_succ,List.getElem_toArray,List.getElem_cons_zero,List.getElem_cons_succ]
  refine wpAnyH_take (i:=15) (v:=undef) rfl (by kernel_rfl) (by kernel_rfl) (by kernel_rfl) (fun _ _ _ h=>h) (Or.inr ⟨by rfl,rfl⟩) hS ?_
  simp only [Act.put,List.setIfInBounds_toArray,List.set_cons_zero,List.set_cons_succ,List.getElem_toArray,List.getElem_cons_zero,List.getElem_cons_succ]
  refine wpAnyH_take (i:=16) (v:=_) rfl (by kernel_rfl) (by kernel_rfl) (by kernel_rfl) (fun _ _ _ h=>h) (Or.inl ⟨by rfl,fun _ _=>rfl⟩) hS ?_
  simp only [Act.put,List.setIfInBounds_toArray,List.set_cons_zero,List.set_cons_succ,List.getElem_toArray,List.getElem_cons_zero,List.getElem_cons_succ]
  refine wpAnyH_take (i:=17) (v:=_) rfl (by kernel_rfl) (by kernel_rfl) (by kernel_rfl) (fun _ _ _ h=>h) (Or.inl ⟨by rfl,fun _ _=>rfl⟩) hS ?_
  simp only [Act.put,List.setIfInBounds_toArray,List.set_cons_zero,List.set_cons_succ,List.getElem_toArray,List.getElem_cons_zero,List.getElem_cons_succ]
  refine wpAnyH_done (by kernel_rfl) ?_ _
  go_wp2
  go_ret
  exact ⟨ret_bool HZ.out.symm,hS⟩
def runN (set sm:List UInt8) (a:Nat):Nat:=((sm.drop a).takeWhile fun c=>set.contains c).length
def untilN (set sm:List UInt8) (a:Nat):Nat:=((sm.drop a).takeWhile fun c=>!set.contains c).length
theorem run_step {p:UInt8 → Bool} (sm:ByteArray) (a:Nat) (h:a < sm.size) (hp:p sm[a] = true):((sm.data.toList.drop a).takeWhile p).length = ((sm.data.toList.drop (a+1)).takeWhile p).length+1:=by
 rw [List.drop_eq_getElem_cons (by rw [size_list]; exact h)]
 have e:sm.data.toList[a]'(by rw [size_list]; exact h) = sm[a]:=rfl
 rw [e,List.takeWhile_cons_of_pos hp,List.length_cons]
theorem run_stop {p:UInt8 → Bool} (sm:ByteArray) (a:Nat) (h:∀ h:a < sm.size,p sm[a] = false):((sm.data.toList.drop a).takeWhile p).length = 0:=by
 by_cases hl:a < sm.size
 ·rw [List.drop_eq_getElem_cons (by rw [size_list]; exact hl)]
  have e:sm.data.toList[a]'(by rw [size_list]; exact hl) = sm[a]:=rfl
  rw [e,List.takeWhile_cons_of_neg (by rw [h hl]; simp)]
  rfl
 ·rw [List.drop_of_length_le (by rw [size_list]; omega)]
  rfl
set_option maxHeartbeats 800000 in
theorem skip_any (b a:Nat) (pg sm set:ByteArray) (L:Value) (w:World) (h:PR w b pg sm a L) (hl:pg.size ≤ 100000000) (hs:sm.size = pg.size) (ha:a ≤ pg.size) :
  Calls Tryz.prog 197 #[.pointer (some ⟨b,0,none⟩),.string set] w fun e w'=>e = .returned (.tuple #[])∧PR w' b pg sm (a+runN set.data.toList sm.data.toList a) L∧a+runN set.data.toList sm.data.toList a ≤ pg.size∧w.grownBy w' (some b):=by
 obtain ⟨N,HN⟩:∃ N,Box (a+runN set.data.toList sm.data.toList a = N):=⟨_,⟨rfl⟩⟩
 rw [HN.out]
 go_enter Tryz.func197,Tryz.ntmps197
 go_wp2
 go_loopg [] (pg.size - a) (fun gf wx=>∃ k:Nat,k ≤ pg.size∧PR wx b pg sm k L∧Box (k+runN set.data.toList sm.data.toList k = N)∧w.grownBy wx (some b)∧pg.size - k ≤ gf)
 case atStart=>exact ⟨a,ha,h,HN,pgrown_refl _ _,Nat.le_refl _⟩
 case round =>
  obtain ⟨k,hk,hr,HT,hg,hgf⟩:=hrel
  have hblt:=hr.cells.2.2.2.2.2.2
  cases hq:isAtB set sm k
  ·have HD:Box (k = N):=⟨by
    have e:runN set.data.toList sm.data.toList k = 0:=run_stop sm k (fun h=>by rw [isAt_val set sm k h,idx_has] at hq; exact hq)
    have:=HT.out
    omega⟩
   have HR:=Box.mk hr
   have HQ:=Box.mk hq
   clear hr HT hq HN h
   go_wp2_with (go_at_call 154; refine (isAt_any b k pg sm set L _ HR.out hs hk).mono ?_; rw [HQ.out]; rintro e w' ⟨rfl,hb'⟩)
   go_end0
   have:=HD.out
   subst this
   exact ⟨rfl,HR.out.below hb' hblt,hk,hg.trans (pgrown_of hb' _)⟩
  ·have hlt:k < sm.size:=by
    rcases Nat.lt_or_ge k sm.size with h | h
    ·exact h
    ·rw [isAt_end set sm k h] at hq; cases hq
   have HT':Box ((k+1)+runN set.data.toList sm.data.toList (k+1) = N):=⟨by
    have e:runN set.data.toList sm.data.toList k = runN set.data.toList sm.data.toList (k+1)+1:=run_step sm k hlt (by rw [isAt_val set sm k hlt,idx_has] at hq; exact hq)
    have:=HT.out
    omega⟩
   have HR:=Box.mk hr
   have HQ:=Box.mk hq
   clear hr HT hq HN h
   go_wp2_with (go_at_call 154; refine (isAt_any b k pg sm set L _ HR.out hs hk).mono ?_; rw [HQ.out]; rintro e w' ⟨rfl,hb'⟩; obtain ⟨c0,c1,c2,c3,f2,f3,hb2⟩:=(HR.out.below hb' hblt).cells)
   go_roundg (pg.size - k - 1)
   case measure=>omega
   case rel=>exact ⟨k+1,by omega,by first | exact (HR.out.below hb' hblt).setA (k+1) | (have:=(HR.out.below hb' hblt).setA (k+1); rw [Int.natCast_add] at this; exact this),HT',(hg.trans (pgrown_of hb' _)).trans (pgrown_set _ _ _ _),by omega⟩
end Go.Proofs.YtknhacbfddggpaaGreatDoor
namespace Go.Proofs.YtknhacbfddggpaaGreatDoor
open Go.RowKit Go.Proofs.Px
set_option maxHeartbeats 800000 in
theorem until_any (b a:Nat) (pg sm set:ByteArray) (L:Value) (w:World) (h:PR w b pg sm a L) (hl:pg.size ≤ 100000000) (hs:sm.size = pg.size) (ha:a ≤ pg.size) :
  Calls Tryz.prog 220 #[.pointer (some ⟨b,0,none⟩),.string set] w fun e w'=>e = .returned (.tuple #[])∧PR w' b pg sm (a+untilN set.data.toList sm.data.toList a) L∧a+untilN set.data.toList sm.data.toList a ≤ pg.size∧w.grownBy w' (some b):=by
 obtain ⟨N,HN⟩:∃ N,Box (a+untilN set.data.toList sm.data.toList a = N):=⟨_,⟨rfl⟩⟩
 rw [HN.out]
 go_enter Tryz.func220,Tryz.ntmps220
 go_wp2
 go_loopg [] (pg.size - a) (fun gf wx=>∃ k:Nat,k ≤ pg.size∧PR wx b pg sm k L∧Box (k+untilN set.data.toList sm.data.toList k = N)∧w.grownBy wx (some b)∧pg.size - k ≤ gf)
 case atStart=>exact ⟨a,ha,h,HN,pgrown_refl _ _,Nat.le_refl _⟩
 case round =>
  obtain ⟨k,hk,hr,HT,hg,hgf⟩:=hrel
  have hblt:=hr.cells.2.2.2.2.2.2
  clear HN h
  by_cases hlt:k < pg.size
  ·have hd:decide (k = pg.size) = false:=decide_eq_false (by omega)
   have hlt':k < sm.size:=by omega
   have hdr:Below wr.heap.size wr wr.drew:=(Below.refl _ _).drew
   cases hq:isAtB set sm k
   ·have HT':Box ((k+1)+untilN set.data.toList sm.data.toList (k+1) = N):=⟨by
     have e:untilN set.data.toList sm.data.toList k = untilN set.data.toList sm.data.toList (k+1)+1:=run_step sm k hlt' (by rw [isAt_val set sm k hlt',idx_has] at hq; rw [hq]; rfl)
     have:=HT.out
     omega⟩
    have HR:=Box.mk hr
    have HQ:=Box.mk hq
    clear hr HT hq
    go_wp2_with (first
     | (go_at_call 196; refine (atEnd_any b k pg sm L _ HR.out).mono ?_; rw [hd]; rintro e w' ⟨rfl,rfl⟩)
     | (go_at_call 154; refine (isAt_any b k pg sm set L _ (HR.out.below hdr hblt) hs hk).mono ?_; rw [HQ.out]; rintro e w' ⟨rfl,hb'⟩; obtain ⟨c0,c1,c2,c3,f2,f3,hb2⟩:=((HR.out.below hdr hblt).below hb' (Nat.lt_of_lt_of_le hblt hdr.size)).cells))
    have hb3:=hdr.trans (hb'.mono hdr.size)
    go_roundg (pg.size - k - 1)
    case measure=>omega
    case rel=>exact ⟨k+1,by omega,by first | exact (HR.out.below hb3 hblt).setA (k+1) | (have:=(HR.out.below hb3 hblt).setA (k+1); rw [Int.natCast_add] at this; exact this),HT',(hg.trans (pgrown_of hb3 _)).trans (pgrown_set _ _ _ _),by omega⟩
   ·have HD:Box (k = N):=⟨by
     have e:untilN set.data.toList sm.data.toList k = 0:=run_stop sm k (fun h=>by rw [isAt_val set sm k h,idx_has] at hq; rw [hq]; rfl)
     have:=HT.out
     omega⟩
    have HR:=Box.mk hr
    have HQ:=Box.mk hq
    clear hr HT hq
    go_wp2_with (first
     | (go_at_call 196; refine (atEnd_any b k pg sm L _ HR.out).mono ?_; rw [hd]; rintro e w' ⟨rfl,rfl⟩)
     | (go_at_call 154; refine (isAt_any b k pg sm set L _ (HR.out.below hdr hblt) hs hk).mono ?_; rw [HQ.out]; rintro e w' ⟨rfl,hb'⟩))
    have hb3:=hdr.trans (hb'.mono hdr.size)
    go_end0
    have:=HD.out
    subst this
    exact ⟨rfl,HR.out.below hb3 hblt,hk,hg.trans (pgrown_of hb3 _)⟩
  ·have hd:decide (k = pg.size) = true:=decide_eq_true (by omega)
   have HD:Box (k = N):=⟨by
    have e:untilN set.data.toList sm.data.toList k = 0:=run_stop sm k (fun h=>absurd h (by omega))
    have:=HT.out
    omega⟩
   have HR:=Box.mk hr
   have hdr:Below wr.heap.size wr wr.drew:=(Below.refl _ _).drew
   clear hr HT
   go_wp2_with (go_at_call 196; refine (atEnd_any b k pg sm L _ HR.out).mono ?_; rw [hd]; rintro e w' ⟨rfl,rfl⟩)
   go_end0
   have:=HD.out
   subst this
   exact ⟨rfl,HR.out.below hdr hblt,hk,hg.trans (pgrown_of hdr _)⟩
def PMax (w:World):Prop:=∃ m,w.cell? ⟨2,0,none⟩ = some (.int .i64 m)
def seekTo (text sm:List UInt8) (n a:Nat):Nat:=if 0 ≤ Lib.index (sm.drop a) text then a+(Lib.index (sm.drop a) text).toNat else n
set_option maxHeartbeats 800000 in
theorem seek_any (b a:Nat) (pg sm text:ByteArray) (L:Value) (w:World) (h:PR w b pg sm a L) (hl:pg.size ≤ 100000000) (hs:sm.size = pg.size) (ha:a ≤ pg.size) (hm:PMax w) :
  Calls Tryz.prog 106 #[.pointer (some ⟨b,0,none⟩),.string text] w fun e w'=>e = .returned (.bool (decide (0 ≤ Lib.index (sm.data.toList.drop a) text.data.toList)))∧PR w' b pg sm (seekTo text.data.toList sm.data.toList pg.size a) L∧w.grownBy w' (some b):=by
 obtain ⟨c0,c1,c2,c3,f2,f3,hb⟩:=h.cells
 obtain ⟨m,hm⟩:=hm
 have HP:=Box.mk h
 clear h
 have ex:(sm.extract a pg.size).data.toList = sm.data.toList.drop a:=by
  rw [← hs,extract_list,List.take_of_length_le (by rw [List.length_drop,size_list]; exact Nat.le_refl _)]
 have h0:(0:Int) ≤ (a:Int):=by omega
 have h1:(a:Int) ≤ (sm.size:Int):=by omega
 obtain ⟨z,HZ⟩:∃ z,Box (Lib.index (sm.data.toList.drop a) text.data.toList = z):=⟨_,⟨rfl⟩⟩
 have hzl:z ≤ (sm.size:Int) - a∧-1 ≤ z:=by
  rw [← HZ.out]
  have:=Lib.index_le (sm.data.toList.drop a) text.data.toList
  rw [List.length_drop,size_list] at this
  exact ⟨by omega,Lib.index_ge _ _⟩
 unfold seekTo
 rw [HZ.out]
 have HQ:=Box.mk (HP.out.below (Below.refl w.heap.size w).drew hb)
 have hg:=pgrown_of (Below.refl w.heap.size w).drew (some b)
 by_cases hz:z < 0
 ·have hz':¬ 0 ≤ z:=by omega
  rw [if_neg hz',decide_eq_false hz']
  have HS:=Box.mk (HQ.out.setA pg.size)
  go_enter Tryz.func106,Tryz.ntmps106
  go_wp2_with fail
  go_region_held3 (fun w'=>w'.cell? ⟨b,1,none⟩ = some (.string sm)∧w'.cell? ⟨b,2,none⟩ = some (.int .i64 (a:Int))∧w'.cell? ⟨2,0,none⟩ = some (.int .i64 m)∧Below w.heap.size w w')
   ((go_split_ands; exact pkeep3 c1 c2 hm (by first | exact (Below.refl _ _).drew | assumption)))
   (first
    | (go_at_call 33; refine (Tryz.strings_Index _ _ m _ (by simp; omega) (by first | assumption | (go_split_ands; assumption))).mono ?_; rw [ex,HZ.out]; rintro e w5 ⟨rfl,rfl⟩))
  obtain ⟨d0,d1,d2,d3,g2,g3,hb2⟩:=(HP.out.below (Below.refl w.heap.size w).drew hb).cells
  go_wp2
  go_ret
  exact ⟨rfl,HS.out,hg.trans (pgrown_set _ _ _ _)⟩
 ·have hz':0 ≤ z:=by omega
  rw [if_pos hz',decide_eq_true hz']
  obtain ⟨k,rfl⟩:∃ k:Nat,z = (k:Int):=⟨z.toNat,by omega⟩
  rw [show ((k:Int).toNat) = k from rfl]
  have HS:=Box.mk (HQ.out.setA (a+k))
  rw [Int.natCast_add] at HS
  go_enter Tryz.func106,Tryz.ntmps106
  go_wp2_with fail
  go_region_held3 (fun w'=>w'.cell? ⟨b,1,none⟩ = some (.string sm)∧w'.cell? ⟨b,2,none⟩ = some (.int .i64 (a:Int))∧w'.cell? ⟨2,0,none⟩ = some (.int .i64 m)∧Below w.heap.size w w')
   ((go_split_ands; exact pkeep3 c1 c2 hm (by first | exact (Below.refl _ _).drew | assumption)))
   (first
    | (go_at_call 33; refine (Tryz.strings_Index _ _ m _ (by simp; omega) (by first | assumption | (go_split_ands; assumption))).mono ?_; rw [ex,HZ.out]; rintro e w5 ⟨rfl,rfl⟩))
  obtain ⟨d0,d1,d2,d3,g2,g3,hb2⟩:=(HP.out.below (Below.refl w.heap.size w).drew hb).cells
  go_wp2
  go_ret
  exact ⟨rfl,HS.out,hg.trans (pgrown_set _ _ _ _)⟩
theorem seek_le (text sm:List UInt8) (n a:Nat) (hs:sm.length = n) (ha:a ≤ n):seekTo text sm n a ≤ n:=by
 unfold seekTo
 split
 ·have:=Lib.index_le (sm.drop a) text
  rw [List.length_drop] at this
  omega
 ·exact Nat.le_refl _
end Go.Proofs.YtknhacbfddggpaaGreatDoor
namespace Go.Proofs.YtknhacbfddggpaaGreatDoor
open Go.RowKit Go.Proofs.Px
def bgA:ByteArray:=⟨#[98,97,99,107,103,114,111,117,110,100]⟩
def hrA:ByteArray:=⟨#[104,114,101,102]⟩
def srA:ByteArray:=⟨#[115,114,99]⟩
def scA:ByteArray:=⟨#[115,99,114,105,112,116]⟩
def stA:ByteArray:=⟨#[115,116,121,108,101]⟩
def txA:ByteArray:=⟨#[116,101,120,116,97,114,101,97]⟩
def tiA:ByteArray:=⟨#[116,105,116,108,101]⟩
theorem bstr (n s:ByteArray):(n.toList == s.toList) = (n.data.toList == s.data.toList):=by rw [ByteArray.toList_eq,ByteArray.toList_eq]
theorem bcomm (x y:List UInt8):(x == y) = (y == x):=by rw [Bool.eq_iff_iff,beq_iff_eq,beq_iff_eq]; exact eq_comm
structure Leads (w:World):Prop where
 c0:w.cell? ⟨8,0,none⟩ = some (.string bgA)
 c1:w.cell? ⟨8,1,none⟩ = some (.string hrA)
 c2:w.cell? ⟨8,2,none⟩ = some (.string srA)
theorem idx3_0 (a b c:Value):∀ w:World,(Instr.index 262 (.agg #[a,b,c]) (.int .i64 0)).run Tryz.prog w = .ok a w:=fun w=>by kernel_rfl
theorem idx3_1 (a b c:Value):∀ w:World,(Instr.index 262 (.agg #[a,b,c]) (.int .i64 1)).run Tryz.prog w = .ok b w:=fun w=>by kernel_rfl
theorem idx3_2 (a b c:Value):∀ w:World,(Instr.index 262 (.agg #[a,b,c]) (.int .i64 2)).run Tryz.prog w = .ok c w:=fun w=>by kernel_rfl
set_option maxHeartbeats 800000 in
theorem isLeading_any (s:ByteArray) (w:World) (h:Leads w) :
  Calls Tryz.prog 222 #[.string s] w fun e w'=>e = .returned (.bool (linkNames.contains s.data.toList))∧w' = w:=by
 obtain ⟨c0,c1,c2⟩:=h
 obtain ⟨q,HQ⟩:∃ q,Box (linkNames.contains s.data.toList = q):=⟨_,⟨rfl⟩⟩
 rw [HQ.out]
 have i0:=idx3_0 (.string bgA) (.string hrA) (.string srA)
 have i1:=idx3_1 (.string bgA) (.string hrA) (.string srA)
 have i2:=idx3_2 (.string bgA) (.string hrA) (.string srA)
 obtain ⟨q0,hq0⟩:∃ q0,(bgA.toList == s.toList) = q0:=⟨_,rfl⟩
 obtain ⟨q1,hq1⟩:∃ q1,(hrA.toList == s.toList) = q1:=⟨_,rfl⟩
 obtain ⟨q2,hq2⟩:∃ q2,(srA.toList == s.toList) = q2:=⟨_,rfl⟩
 have HE:Box (q = (q2 || (q1 || q0))):=⟨by
  rw [← HQ.out,← hq0,← hq1,← hq2,bstr,bstr,bstr,bcomm bgA.data.toList,bcomm hrA.data.toList,bcomm srA.data.toList]
  simp only [linkNames,List.contains_cons,List.contains_nil,Bool.or_false]
  rfl⟩
 clear HQ
 go_enter Tryz.func222,Tryz.ntmps222
 go_wp2
 go_loop [6] (fun i=>∃ k:Nat,k ≤ 3∧i = .int .i64 k∧Box ((0 < k → q0 = false)∧(1 < k → q1 = false)∧(2 < k → q2 = false))) (fun i=>3 - (intOf i).toNat)
 case atStart=>exact ⟨0,by omega,rfl,⟨fun h=>absurd h (by omega),fun h=>absurd h (by omega),fun h=>absurd h (by omega)⟩⟩
 case round =>
  obtain ⟨k,hk,rfl,HA⟩:=hrel
  obtain rfl | rfl | rfl | rfl:k = 0 ∨ k = 1 ∨ k = 2 ∨ k = 3:=by omega
  ·cases q0
   ·go_wp2
    go_round
    case rel=>exact ⟨1,by omega,by go_num,⟨fun _=>by first | rfl | trivial,fun h=>absurd h (by omega),fun h=>absurd h (by omega)⟩⟩
    case measure=>simp [intOf]
   ·go_wp2
    go_ret
    exact ⟨ret_bool (by rw [HE.out]; simp),rfl⟩
  ·have h0:=HA.out.1 (by omega)
   cases q1
   ·go_wp2
    go_round
    case rel=>exact ⟨2,by omega,by go_num,⟨fun _=>h0,fun _=>by first | rfl | trivial,fun h=>absurd h (by omega)⟩⟩
    case measure=>simp [intOf]
   ·go_wp2
    go_ret
    exact ⟨ret_bool (by rw [HE.out]; simp),rfl⟩
  ·have h0:=HA.out.1 (by omega)
   have h1:=HA.out.2.1 (by omega)
   cases q2
   ·go_wp2
    go_round
    case rel=>exact ⟨3,by omega,by go_num,⟨fun _=>h0,fun _=>h1,fun _=>by first | rfl | trivial⟩⟩
    case measure=>simp [intOf]
   ·go_wp2
    go_ret
    exact ⟨ret_bool (by rw [HE.out]; simp),rfl⟩
  ·have HF:Box (q = false):=⟨by rw [HE.out,HA.out.1 (by omega),HA.out.2.1 (by omega),HA.out.2.2 (by omega)]; rfl⟩
   go_wp2
   go_ret
   exact ⟨ret_bool HF.out.symm,rfl⟩
structure Verbs (w:World):Prop where
 c0:w.cell? ⟨5,0,none⟩ = some (.string scA)
 c1:w.cell? ⟨5,1,none⟩ = some (.string stA)
 c2:w.cell? ⟨5,2,none⟩ = some (.string txA)
 c3:w.cell? ⟨5,3,none⟩ = some (.string tiA)
theorem idx4_0 (a b c d:Value):∀ w:World,(Instr.index 253 (.agg #[a,b,c,d]) (.int .i64 0)).run Tryz.prog w = .ok a w:=fun w=>by kernel_rfl
theorem idx4_1 (a b c d:Value):∀ w:World,(Instr.index 253 (.agg #[a,b,c,d]) (.int .i64 1)).run Tryz.prog w = .ok b w:=fun w=>by kernel_rfl
theorem idx4_2 (a b c d:Value):∀ w:World,(Instr.index 253 (.agg #[a,b,c,d]) (.int .i64 2)).run Tryz.prog w = .ok c w:=fun w=>by kernel_rfl
theorem idx4_3 (a b c d:Value):∀ w:World,(Instr.index 253 (.agg #[a,b,c,d]) (.int .i64 3)).run Tryz.prog w = .ok d w:=fun w=>by kernel_rfl
set_option maxHeartbeats 800000 in
theorem isVerbatim_any (s:ByteArray) (w:World) (h:Verbs w) :
  Calls Tryz.prog 199 #[.string s] w fun e w'=>e = .returned (.bool (skipNames.contains s.data.toList))∧w' = w:=by
 obtain ⟨c0,c1,c2,c3⟩:=h
 obtain ⟨q,HQ⟩:∃ q,Box (skipNames.contains s.data.toList = q):=⟨_,⟨rfl⟩⟩
 rw [HQ.out]
 have i0:=idx4_0 (.string scA) (.string stA) (.string txA) (.string tiA)
 have i1:=idx4_1 (.string scA) (.string stA) (.string txA) (.string tiA)
 have i2:=idx4_2 (.string scA) (.string stA) (.string txA) (.string tiA)
 have i3:=idx4_3 (.string scA) (.string stA) (.string txA) (.string tiA)
 obtain ⟨q0,hq0⟩:∃ q0,(scA.toList == s.toList) = q0:=⟨_,rfl⟩
 obtain ⟨q1,hq1⟩:∃ q1,(stA.toList == s.toList) = q1:=⟨_,rfl⟩
 obtain ⟨q2,hq2⟩:∃ q2,(txA.toList == s.toList) = q2:=⟨_,rfl⟩
 obtain ⟨q3,hq3⟩:∃ q3,(tiA.toList == s.toList) = q3:=⟨_,rfl⟩
 have HE:Box (q = (q0 || (q1 || (q2 || q3)))):=⟨by
  rw [← HQ.out,← hq0,← hq1,← hq2,← hq3,bstr,bstr,bstr,bstr,bcomm scA.data.toList,bcomm stA.data.toList,bcomm txA.data.toList,bcomm tiA.data.toList]
  simp only [skipNames,List.contains_cons,List.contains_nil,Bool.or_false]
  rfl⟩
 clear HQ
 go_enter Tryz.func199,Tryz.ntmps199
 go_wp2
 go_loop [6] (fun i=>∃ k:Nat,k ≤ 4∧i = .int .i64 k∧Box ((0 < k → q0 = false)∧(1 < k → q1 = false)∧(2 < k → q2 = false)∧(3 < k → q3 = false))) (fun i=>4 - (intOf i).toNat)
 case atStart=>exact ⟨0,by omega,rfl,⟨fun h=>absurd h (by omega),fun h=>absurd h (by omega),fun h=>absurd h (by omega),fun h=>absurd h (by omega)⟩⟩
 case round =>
  obtain ⟨k,hk,rfl,HA⟩:=hrel
  obtain rfl | rfl | rfl | rfl | rfl:k = 0 ∨ k = 1 ∨ k = 2 ∨ k = 3 ∨ k = 4:=by omega
  ·cases q0
   ·go_wp2
    go_round
    case rel=>exact ⟨1,by omega,by go_num,⟨fun _=>by first | rfl | trivial,fun h=>absurd h (by omega),fun h=>absurd h (by omega),fun h=>absurd h (by omega)⟩⟩
    case measure=>simp [intOf]
   ·go_wp2
    go_ret
    exact ⟨ret_bool (by rw [HE.out]; simp),rfl⟩
  ·have h0:=HA.out.1 (by omega)
   cases q1
   ·go_wp2
    go_round
    case rel=>exact ⟨2,by omega,by go_num,⟨fun _=>h0,fun _=>by first | rfl | trivial,fun h=>absurd h (by omega),fun h=>absurd h (by omega)⟩⟩
    case measure=>simp [intOf]
   ·go_wp2
    go_ret
    exact ⟨ret_bool (by rw [HE.out]; simp),rfl⟩
  ·have h0:=HA.out.1 (by omega)
   have h1:=HA.out.2.1 (by omega)
   cases q2
   ·go_wp2
    go_round
    case rel=>exact ⟨3,by omega,by go_num,⟨fun _=>h0,fun _=>h1,fun _=>by first | rfl | trivial,fun h=>absurd h (by omega)⟩⟩
    case measure=>simp [intOf]
   ·go_wp2
    go_ret
    exact ⟨ret_bool (by rw [HE.out]; simp),rfl⟩
  ·have h0:=HA.out.1 (by omega)
   have h1:=HA.out.2.1 (by omega)
   have h2:=HA.out.2.2.1 (by omega)
   cases q3
   ·go_wp2
    go_round
    case rel=>exact ⟨4,by omega,by go_num,⟨fun _=>h0,fun _=>h1,fun _=>h2,fun _=>by first | rfl | trivial⟩⟩
    case measure=>simp [intOf]
   ·go_wp2
    go_ret
    exact ⟨ret_bool (by rw [HE.out]; simp),rfl⟩
  ·have HF:Box (q = false):=⟨by rw [HE.out,HA.out.1 (by omega),HA.out.2.1 (by omega),HA.out.2.2.1 (by omega),HA.out.2.2.2 (by omega)]; rfl⟩
   go_wp2
   go_ret
   exact ⟨ret_bool HF.out.symm,rfl⟩
end Go.Proofs.YtknhacbfddggpaaGreatDoor
namespace Go.Proofs.YtknhacbfddggpaaGreatDoor
open Go.RowKit Go.Proofs.Px
def ampA:ByteArray:=⟨#[38,97,109,112,59]⟩
def quotA:ByteArray:=⟨#[38,113,117,111,116,59]⟩
def aposA:ByteArray:=⟨#[38,35,51,57,59]⟩
def ltA:ByteArray:=⟨#[38,108,116,59]⟩
def gtA:ByteArray:=⟨#[38,103,116,59]⟩
def wordsL:List (UInt8 × ByteArray):=[(38,ampA),(34,quotA),(39,aposA),(60,ltA),(62,gtA)]
structure Words (w:World):Prop where
 c0:w.cell? ⟨4,0,none⟩ = some (.int .u8 38)
 c1:w.cell? ⟨4,1,none⟩ = some (.string ampA)
 c2:w.cell? ⟨4,2,none⟩ = some (.int .u8 34)
 c3:w.cell? ⟨4,3,none⟩ = some (.string quotA)
 c4:w.cell? ⟨4,4,none⟩ = some (.int .u8 39)
 c5:w.cell? ⟨4,5,none⟩ = some (.string aposA)
 c6:w.cell? ⟨4,6,none⟩ = some (.int .u8 60)
 c7:w.cell? ⟨4,7,none⟩ = some (.string ltA)
 c8:w.cell? ⟨4,8,none⟩ = some (.int .u8 62)
 c9:w.cell? ⟨4,9,none⟩ = some (.string gtA)
theorem idx5 (k:Nat) (h:k < 5):∃ x,wordsL[k]? = some x∧∀ w:World,(Instr.index 249 (.agg #[.int .u8 38,.string ampA,.int .u8 34,.string quotA,.int .u8 39,.string aposA,.int .u8 60,.string ltA,.int .u8 62,.string gtA]) (.int .i64 (k:Int))).run Tryz.prog w = .ok (.agg #[.int .u8 (x.1.toNat:Int),.string x.2]) w:=by
 obtain rfl | rfl | rfl | rfl | rfl:k = 0 ∨ k = 1 ∨ k = 2 ∨ k = 3 ∨ k = 4:=by omega
 ·exact ⟨_,rfl,fun w=>by kernel_rfl⟩
 ·exact ⟨_,rfl,fun w=>by kernel_rfl⟩
 ·exact ⟨_,rfl,fun w=>by kernel_rfl⟩
 ·exact ⟨_,rfl,fun w=>by kernel_rfl⟩
 ·exact ⟨_,rfl,fun w=>by kernel_rfl⟩
def findV:Option (UInt8 × ByteArray) → Value
 | some x=>.tuple #[.agg #[.int .u8 (x.1.toNat:Int),.string x.2],.bool true]
 | none=>.tuple #[.agg #[.int .u8 0,.string ⟨#[]⟩],.bool false]
theorem find_drop_no {p:UInt8 × ByteArray → Bool} (k:Nat) (x:UInt8 × ByteArray) (h:wordsL[k]? = some x) (hp:p x = false):(wordsL.drop k).find? p = (wordsL.drop (k+1)).find? p:=by
 obtain ⟨hk,e⟩:=List.getElem?_eq_some_iff.1 h
 rw [List.drop_eq_getElem_cons hk,e,List.find?_cons_of_neg (by rw [hp]; simp)]
theorem find_drop_yes {p:UInt8 × ByteArray → Bool} (k:Nat) (x:UInt8 × ByteArray) (h:wordsL[k]? = some x) (hp:p x = true):(wordsL.drop k).find? p = some x:=by
 obtain ⟨hk,e⟩:=List.getElem?_eq_some_iff.1 h
 rw [List.drop_eq_getElem_cons hk,e,List.find?_cons_of_pos hp]
theorem alloc_new (w:World) (o:Obj):(w.alloc o).heap[w.heap.size]? = some o:=by
 have e:(w.alloc o).heap = w.heap.push o:=rfl
 rw [e]
 simp
theorem obj2_of {w:World} {b:Nat} {u v:Value} {T:TypeId} (h:w.heap[b]? = some (.cells #[u,v] T (0,0))):w.cell? ⟨b,0,none⟩ = some u∧w.cell? ⟨b,1,none⟩ = some v∧w.frozen? ⟨b,0,none⟩ = false∧w.frozen? ⟨b,1,none⟩ = false∧b < w.heap.size:=
 ⟨by simp [World.cell?,h],by simp [World.cell?,h],by simp [World.frozen?,h],by simp [World.frozen?,h],(Array.getElem?_eq_some_iff.1 h).1⟩
set_option maxHeartbeats 100000000 in
set_option maxRecDepth 100000 in
theorem findEsc (x1 x2:Value) (p:UInt8 × ByteArray → Bool) (w:World) (hW:Words w)
  (hc:∀ (x:UInt8 × ByteArray) (w1:World),Below w.heap.size w w1 → Calls Tryz.prog 184 #[.agg #[.int .u8 (x.1.toNat:Int),.string x.2],x1,x2] w1 fun e w2=>e = .returned (.bool (p x))∧Below w1.heap.size w1 w2) :
  Calls Tryz.prog 183 #[.func (.func 184) #[] #[x1,x2]] w fun e w'=>e = .returned (findV (wordsL.find? p))∧Below w.heap.size w w':=by
 obtain ⟨c0,c1,c2,c3,c4,c5,c6,c7,c8,c9⟩:=hW
 obtain ⟨F,HF⟩:∃ F,Box (wordsL.find? p = F):=⟨_,⟨rfl⟩⟩
 rw [HF.out]
 have hlt:=World.block_lt_of_cell? w _ c0
 have HC:=Box.mk hc
 clear hc
 go_enter Tryz.func183,Tryz.ntmps183
 go_wp2
 clear c0 c1 c2 c3 c4 c5 c6 c7 c8 c9
 go_loopg [7] 5 (fun gf i wx=>∃ k:Nat,k ≤ 5∧i = .int .i64 k∧Box ((wordsL.drop k).find? p = F)∧Below (w.heap.size+1) (w.alloc (.cells #[.int .u8 0,.string ⟨#[]⟩] 225)) wx∧5 - k ≤ gf)
 case atStart=>exact ⟨0,by omega,rfl,HF,Below.refl _ _,by omega⟩
 case round =>
  obtain ⟨k,hk,rfl,HT,hb,hgf⟩:=hrel
  clear HF
  have hbw:Below w.heap.size w wr:=((Below.refl _ _).alloc (Nat.le_refl _) _).trans (hb.mono (by omega))
  have hsz:w.heap.size+1 ≤ wr.heap.size:=by have:=hb.size; simpa using this
  have HB0:=Box.mk ((hb.block w.heap.size (by omega)).trans (alloc_new w _))
  by_cases hk5:k < 5
  ·obtain ⟨x,hx,ix⟩:=idx5 k hk5
   have HX:=Box.mk hx
   clear hx
   have hbA:Below w.heap.size w (wr.alloc (.cells #[.int .u8 (x.1.toNat:Int),.string x.2] 225)):=hbw.alloc (by omega) _
   have HCL:=Box.mk (HC.out x _ hbA)
   cases hq:p x
   ·have HT':Box ((wordsL.drop (k+1)).find? p = F):=⟨by rw [← HT.out,find_drop_no k x HX.out hq]⟩
    rw [hq] at HCL
    clear HT HX HC hq
    go_wp2_with fail
    refine HCL.out.mono ?_
    rintro e w2 ⟨rfl,hb2⟩
    clear HCL
    go_wp2
    go_roundg (5 - (k+1))
    case measure=>omega
    case rel=>exact ⟨k+1,by omega,by go_num,HT',(hb.alloc (by omega) _).trans (hb2.mono (by simp; omega)),by omega⟩
   ·have HT':Box (F = some x):=⟨by rw [← HT.out,find_drop_yes k x HX.out hq]⟩
    rw [hq] at HCL
    clear HT HX HC hq
    go_wp2_with fail
    refine HCL.out.mono ?_
    rintro e w2 ⟨rfl,hb2⟩
    clear HCL
    obtain ⟨y0,y1,y2,y3,y4⟩:=obj2_of ((hb2.block w.heap.size (by simp; omega)).trans ((Below.heap_alloc wr _ _ (by omega)).trans HB0.out))
    obtain ⟨z0,z1,z2,z3,z4⟩:=obj2_of ((hb2.block wr.heap.size (by simp)).trans (alloc_new wr _))
    have hbE:Below w.heap.size w w2:=hbA.trans (hb2.mono (by simp; omega))
    go_wp2
    have:=HT'.out
    subst this
    refine bodyPost_ret (v:=.tuple #[.agg #[.int .u8 (x.1.toNat:Int),.string x.2],.bool true]) (by simp [results,Tryz.results183,go_sem,y0,y1]) rfl ⟨rfl,?_⟩
    iterate 2 (refine Below.setCell ?_ (by simp) _)
    exact hbE
  ·have HT':Box (F = none):=⟨by rw [← HT.out,List.drop_of_length_le (by show 5 ≤ k; omega)]; rfl⟩
   obtain ⟨y0,y1,y2,y3,y4⟩:=obj2_of HB0.out
   clear HT HC
   go_wp2
   have:=HT'.out
   subst this
   refine bodyPost_ret (v:=.tuple #[.agg #[.int .u8 0,.string ⟨#[]⟩],.bool false]) (by simp [results,Tryz.results183,go_sem,y0,y1]) rfl ⟨rfl,?_⟩
   iterate 2 (refine Below.setCell ?_ (by simp) _)
   exact hbw
set_option maxHeartbeats 100000000 in
set_option maxRecDepth 100000 in
theorem findSaid (x1 x2:Value) (p:UInt8 × ByteArray → Bool) (w:World) (hW:Words w)
  (hc:∀ (x:UInt8 × ByteArray) (w1:World),Below w.heap.size w w1 → Calls Tryz.prog 231 #[.agg #[.int .u8 (x.1.toNat:Int),.string x.2],x1,x2] w1 fun e w2=>e = .returned (.bool (p x))∧Below w1.heap.size w1 w2) :
  Calls Tryz.prog 183 #[.func (.func 231) #[] #[x1,x2]] w fun e w'=>e = .returned (findV (wordsL.find? p))∧Below w.heap.size w w':=by
 obtain ⟨c0,c1,c2,c3,c4,c5,c6,c7,c8,c9⟩:=hW
 obtain ⟨F,HF⟩:∃ F,Box (wordsL.find? p = F):=⟨_,⟨rfl⟩⟩
 rw [HF.out]
 have hlt:=World.block_lt_of_cell? w _ c0
 have HC:=Box.mk hc
 clear hc
 go_enter Tryz.func183,Tryz.ntmps183
 go_wp2
 clear c0 c1 c2 c3 c4 c5 c6 c7 c8 c9
 go_loopg [7] 5 (fun gf i wx=>∃ k:Nat,k ≤ 5∧i = .int .i64 k∧Box ((wordsL.drop k).find? p = F)∧Below (w.heap.size+1) (w.alloc (.cells #[.int .u8 0,.string ⟨#[]⟩] 225)) wx∧5 - k ≤ gf)
 case atStart=>exact ⟨0,by omega,rfl,HF,Below.refl _ _,by omega⟩
 case round =>
  obtain ⟨k,hk,rfl,HT,hb,hgf⟩:=hrel
  clear HF
  have hbw:Below w.heap.size w wr:=((Below.refl _ _).alloc (Nat.le_refl _) _).trans (hb.mono (by omega))
  have hsz:w.heap.size+1 ≤ wr.heap.size:=by have:=hb.size; simpa using this
  have HB0:=Box.mk ((hb.block w.heap.size (by omega)).trans (alloc_new w _))
  by_cases hk5:k < 5
  ·obtain ⟨x,hx,ix⟩:=idx5 k hk5
   have HX:=Box.mk hx
   clear hx
   have hbA:Below w.heap.size w (wr.alloc (.cells #[.int .u8 (x.1.toNat:Int),.string x.2] 225)):=hbw.alloc (by omega) _
   have HCL:=Box.mk (HC.out x _ hbA)
   cases hq:p x
   ·have HT':Box ((wordsL.drop (k+1)).find? p = F):=⟨by rw [← HT.out,find_drop_no k x HX.out hq]⟩
    rw [hq] at HCL
    clear HT HX HC hq
    go_wp2_with fail
    refine HCL.out.mono ?_
    rintro e w2 ⟨rfl,hb2⟩
    clear HCL
    go_wp2
    go_roundg (5 - (k+1))
    case measure=>omega
    case rel=>exact ⟨k+1,by omega,by go_num,HT',(hb.alloc (by omega) _).trans (hb2.mono (by simp; omega)),by omega⟩
   ·have HT':Box (F = some x):=⟨by rw [← HT.out,find_drop_yes k x HX.out hq]⟩
    rw [hq] at HCL
    clear HT HX HC hq
    go_wp2_with fail
    refine HCL.out.mono ?_
    rintro e w2 ⟨rfl,hb2⟩
    clear HCL
    obtain ⟨y0,y1,y2,y3,y4⟩:=obj2_of ((hb2.block w.heap.size (by simp; omega)).trans ((Below.heap_alloc wr _ _ (by omega)).trans HB0.out))
    obtain ⟨z0,z1,z2,z3,z4⟩:=obj2_of ((hb2.block wr.heap.size (by simp)).trans (alloc_new wr _))
    have hbE:Below w.heap.size w w2:=hbA.trans (hb2.mono (by simp; omega))
    go_wp2
    have:=HT'.out
    subst this
    refine bodyPost_ret (v:=.tuple #[.agg #[.int .u8 (x.1.toNat:Int),.string x.2],.bool true]) (by simp [results,Tryz.results183,go_sem,y0,y1]) rfl ⟨rfl,?_⟩
    iterate 2 (refine Below.setCell ?_ (by simp) _)
    exact hbE
  ·have HT':Box (F = none):=⟨by rw [← HT.out,List.drop_of_length_le (by show 5 ≤ k; omega)]; rfl⟩
   obtain ⟨y0,y1,y2,y3,y4⟩:=obj2_of HB0.out
   clear HT HC
   go_wp2
   have:=HT'.out
   subst this
   refine bodyPost_ret (v:=.tuple #[.agg #[.int .u8 0,.string ⟨#[]⟩],.bool false]) (by simp [results,Tryz.results183,go_sem,y0,y1]) rfl ⟨rfl,?_⟩
   iterate 2 (refine Below.setCell ?_ (by simp) _)
   exact hbw
end Go.Proofs.YtknhacbfddggpaaGreatDoor
namespace Go.Proofs.YtknhacbfddggpaaGreatDoor
open Go.RowKit Go.Proofs.Px
set_option maxHeartbeats 800000 in
theorem clEsc_any (x:UInt8 × ByteArray) (p q:Nat) (s:ByteArray) (k:Nat) (w:World) (h1:w.cell? ⟨p,0,none⟩ = some (.string s)) (h2:w.cell? ⟨q,0,none⟩ = some (.int .i64 (k:Int))) (hk:k < s.size) :
  Calls Tryz.prog 184 #[.agg #[.int .u8 (x.1.toNat:Int),.string x.2],.pointer (some ⟨p,0,none⟩),.pointer (some ⟨q,0,none⟩)] w fun e w'=>e = .returned (.bool (x.1 == s[k]))∧Below w.heap.size w w':=by
 have hp:=World.block_lt_of_cell? w _ h1
 have hq:=World.block_lt_of_cell? w _ h2
 have hk0:(0:Int) ≤ (k:Int):=by omega
 have hk1:(k:Int) < (s.size:Int):=by omega
 have hE:((x.1.toNat:Int) == (s[k].toNat:Int)) = (x.1 == s[k]):=by
  rw [Bool.eq_iff_iff,beq_iff_eq,beq_iff_eq,← UInt8.toNat_inj]
  omega
 go_enter Tryz.func184,Tryz.ntmps184
 go_wp2
 go_region
 go_wp2
 go_ret
 exact ⟨rfl,((Below.refl _ _).alloc (Nat.le_refl _) _).drew⟩
theorem has_prefix (s p:List UInt8):Lib.hasPrefix s p = p.isPrefixOf s:=rfl
set_option maxHeartbeats 800000 in
theorem clSaid_any (x:UInt8 × ByteArray) (p q:Nat) (s:ByteArray) (k:Nat) (w:World) (h1:w.cell? ⟨p,0,none⟩ = some (.string s)) (h2:w.cell? ⟨q,0,none⟩ = some (.int .i64 (k:Int))) (hk:k < s.size) :
  Calls Tryz.prog 231 #[.agg #[.int .u8 (x.1.toNat:Int),.string x.2],.pointer (some ⟨p,0,none⟩),.pointer (some ⟨q,0,none⟩)] w fun e w'=>e = .returned (.bool (x.2.data.toList.isPrefixOf (s.data.toList.drop k)))∧Below w.heap.size w w':=by
 have hp:=World.block_lt_of_cell? w _ h1
 have hq:=World.block_lt_of_cell? w _ h2
 have hk0:(0:Int) ≤ (k:Int):=by omega
 have hk1:(k:Int) ≤ (s.size:Int):=by omega
 have ex:(s.extract k s.size).data.toList = s.data.toList.drop k:=by
  rw [extract_list,List.take_of_length_le (by rw [List.length_drop,size_list]; exact Nat.le_refl _)]
 obtain ⟨z,HZ⟩:∃ z,Box (x.2.data.toList.isPrefixOf (s.data.toList.drop k) = z):=⟨_,⟨rfl⟩⟩
 rw [HZ.out]
 have hb0:Below w.heap.size w (w.alloc (.cells #[.int .u8 (x.1.toNat:Int),.string x.2] 225)):=(Below.refl _ _).alloc (Nat.le_refl _) _
 have HK:Box (∀ w',Below (w.alloc (.cells #[.int .u8 (x.1.toNat:Int),.string x.2] 225)).heap.size (w.alloc (.cells #[.int .u8 (x.1.toNat:Int),.string x.2] 225)) w' → w'.cell? ⟨p,0,none⟩ = some (.string s)∧w'.cell? ⟨q,0,none⟩ = some (.int .i64 (k:Int))∧w'.cell? ⟨w.heap.size,1,none⟩ = some (.string x.2)∧Below (w.alloc (.cells #[.int .u8 (x.1.toNat:Int),.string x.2] 225)).heap.size (w.alloc (.cells #[.int .u8 (x.1.toNat:Int),.string x.2] 225)) w'):=⟨fun w' hb=>by
  obtain ⟨y0,y1,y2,y3,y4⟩:=obj2_of (alloc_new w (.cells #[.int .u8 (x.1.toNat:Int),.string x.2] 225))
  exact pkeep3 ((hb0.cell (p:=⟨p,0,none⟩) hp).trans h1) ((hb0.cell (p:=⟨q,0,none⟩) hq).trans h2) y1 hb⟩
 go_enter Tryz.func231,Tryz.ntmps231
 go_wp2_with fail
 go_region_held3 (fun w'=>w'.cell? ⟨p,0,none⟩ = some (.string s)∧w'.cell? ⟨q,0,none⟩ = some (.int .i64 (k:Int))∧w'.cell? ⟨w.heap.size,1,none⟩ = some (.string x.2)∧Below (w.alloc (.cells #[.int .u8 (x.1.toNat:Int),.string x.2] 225)).heap.size (w.alloc (.cells #[.int .u8 (x.1.toNat:Int),.string x.2] 225)) w')
  ((first | assumption | exact HK.out _ (Below.refl _ _).drew))
  (first
   | (go_at_call 12; refine (Tryz.strings_HasPrefix _ _ _).mono ?_; rw [ex,has_prefix,HZ.out]; rintro e w5 ⟨rfl,rfl⟩))
 all_goals
  go_wp2
  go_ret
  exact ⟨rfl,hb0.drew⟩
end Go.Proofs.YtknhacbfddggpaaGreatDoor
namespace Go.Proofs.YtknhacbfddggpaaGreatDoor
open Go.RowKit Go.Proofs.Px
theorem bf_keep {T e:TypeId} {B b:Nat} {p:Value} {bs:List Value} {W W':World} (h:Lib.BuilderAtF T e B b p bs W) (key:∀ (k:Nat) (o:Obj),W.heap[k]? = some o → (∃ c fz,o = .cells c T fz ∨ o = .cells c e fz) → W'.heap[k]? = some o):Lib.BuilderAtF T e B b p bs W':=by
 obtain ⟨hB,v,h1,⟨h2,h3⟩,h4⟩:=h
 refine ⟨hB,v,key _ _ h1 ⟨_,_,.inl rfl⟩,⟨h2,?_⟩,h4⟩
 rcases h3 with h3 | ⟨g,cap,cur,fz,a,b',c,d⟩
 ·exact .inl h3
 ·exact .inr ⟨g,cap,cur,fz,a,b',key _ _ c ⟨_,_,.inr rfl⟩,d⟩
theorem ib_keep {T e:TypeId} {B b:Nat} {bs:List Value} {W W':World} (h:Lib.IsBuilderF T e B b bs W) (key:∀ (k:Nat) (o:Obj),W.heap[k]? = some o → (∃ c fz,o = .cells c T fz ∨ o = .cells c e fz) → W'.heap[k]? = some o):Lib.IsBuilderF T e B b bs W':=
 h.elim (fun x=>.inl (bf_keep x key)) (fun x=>.inr (bf_keep x key))
theorem ib_below {T e:TypeId} {B b:Nat} {bs:List Value} {W W':World} (h:Lib.IsBuilderF T e B b bs W) (hb:Below W.heap.size W W'):Lib.IsBuilderF T e B b bs W':=
 ib_keep h (fun k _ hk _=>(hb.block k (Array.getElem?_eq_some_iff.1 hk).1).trans hk)
theorem bcells_snoc (l:List UInt8) (s:ByteArray):Lib.byteCells l++Lib.strCells s = Lib.byteCells (l++s.data.toList):=by
 simp [Lib.byteCells,Lib.strCells]
theorem bcells_one (l:List UInt8) (c:UInt8):Lib.byteCells l++[.int .u8 (c.toNat:Int)] = Lib.byteCells (l++[c]):=by
 simp [Lib.byteCells]
theorem esc_find (c:UInt8):(∃ x,wordsL.find? (fun x=>x.1 == c) = some x∧escW c = x.2.data.toList∧x.2.size ≤ 6) ∨ (wordsL.find? (fun x=>x.1 == c) = none∧escW c = [c]):=by
 unfold wordsL escW
 by_cases h1:c = 38
 ·subst h1; exact .inl ⟨_,rfl,rfl,by decide⟩
 by_cases h2:c = 34
 ·subst h2; exact .inl ⟨_,rfl,rfl,by decide⟩
 by_cases h3:c = 39
 ·subst h3; exact .inl ⟨_,rfl,rfl,by decide⟩
 by_cases h4:c = 60
 ·subst h4; exact .inl ⟨_,rfl,rfl,by decide⟩
 by_cases h5:c = 62
 ·subst h5; exact .inl ⟨_,rfl,rfl,by decide⟩
 refine .inr ⟨?_,by rw [if_neg h1,if_neg h2,if_neg h3,if_neg h4,if_neg h5]⟩
 simp [Ne.symm h1,Ne.symm h2,Ne.symm h3,Ne.symm h4,Ne.symm h5]
theorem escW_len (c:UInt8):(escW c).length ≤ 6:=by
 unfold escW
 repeat' split
 all_goals simp
theorem escS_len (l:List UInt8):(escS l).length ≤ 6 * l.length:=by
 induction l with
 | nil=>simp [escS]
 | cons c l ih =>
  have e:escS (c :: l) = escW c++escS l:=rfl
  rw [e,List.length_append,List.length_cons]
  have:=escW_len c
  omega
theorem escS_take (s:ByteArray) (k:Nat) (h:k < s.size):escS (s.data.toList.take (k+1)) = escS (s.data.toList.take k)++escW s[k]:=by
 have e:s.data.toList.take (k+1) = s.data.toList.take k++[s[k]]:=by
  rw [List.take_add_one,getL s k h]
  rfl
 rw [e]
 unfold escS
 rw [List.flatMap_append]
 simp
theorem Words.lt {w:World} (h:Words w):4 < w.heap.size:=World.block_lt_of_cell? w _ h.c0
theorem Words.below {w w':World} {B:Nat} (h:Words w) (hb:Below B w w') (hB:4 < B):Words w':=by
 have key:∀ (i:Nat) (v:Value),w.cell? ⟨4,i,none⟩ = some v → w'.cell? ⟨4,i,none⟩ = some v:=fun i v hv=>(hb.cell (p:=⟨4,i,none⟩) hB).trans hv
 exact ⟨key _ _ h.c0,key _ _ h.c1,key _ _ h.c2,key _ _ h.c3,key _ _ h.c4,key _ _ h.c5,key _ _ h.c6,key _ _ h.c7,key _ _ h.c8,key _ _ h.c9⟩
theorem cell1 {w:World} {b:Nat} {v:Value} {T:TypeId} {fz:Nat × Nat} (h:w.heap[b]? = some (.cells #[v] T fz)):w.cell? ⟨b,0,none⟩ = some v:=by simp [World.cell?,h]
set_option maxHeartbeats 2000000 in
set_option maxRecDepth 100000 in
theorem escape_any (s:ByteArray) (w:World) (hW:Words w) (hs:s.size ≤ 100000000) :
  Calls Tryz.prog 143 #[.string s] w fun e w'=>∃ S:ByteArray,e = .returned (.string S)∧S.data.toList = escS s.data.toList∧Below w.heap.size w w':=by
 obtain ⟨w1,hw1⟩:∃ w1,w1 = w.alloc (.cells #[.string s] 9):=⟨_,rfl⟩
 have hb1:Below w.heap.size w w1:=by rw [hw1]; exact (Below.refl _ _).alloc (Nat.le_refl _) _
 have hs1:w1.heap.size = w.heap.size+1:=by rw [hw1]; simp
 have hbox:w1.heap[w.heap.size]? = some (.cells #[.string s] 9 (0,0)):=by rw [hw1]; exact alloc_new w _
 have HW1:=Box.mk (hW.below hb1 hW.lt)
 have HB0:Box (Lib.IsBuilderF 153 5 (w.heap.size+1) (w.heap.size+1) (Lib.byteCells []) (w1.alloc (.cells #[.pointer none,.slice none 0 0] 153))):=⟨Lib.IsBuilderF.of (.inl ⟨Nat.le_refl _,_,by rw [← hs1]; exact alloc_new w1 _,World.ownsRow_nil _ _ _ _,by simp [Value.ownBlock]⟩)⟩
 have hb2:Below (w.heap.size+1) w1 (w1.alloc (.cells #[.pointer none,.slice none 0 0] 153)):=by rw [← hs1]; exact (Below.refl _ _).alloc (Nat.le_refl _) _
 rw [hw1] at HB0 hb2
 have hg0:=hW.lt
 clear hW
 go_enter Tryz.func143,Tryz.ntmps143
 go_wp2
 go_loopg [9] s.size (fun gf i wx=>∃ k:Nat,k ≤ s.size∧i = .int .i64 k∧Below (w.heap.size+1) w1 wx∧Box (Lib.IsBuilderF 153 5 (w.heap.size+1) (w.heap.size+1) (Lib.byteCells (escS (s.data.toList.take k))) wx)∧s.size - k ≤ gf)
 case atStart=>exact ⟨0,Nat.zero_le _,rfl,by rw [hw1]; exact hb2,⟨HB0.out⟩,by omega⟩
 case round =>
  obtain ⟨k,hk,rfl,hb,HB,hgf⟩:=hrel
  have hsz:w.heap.size+1 ≤ wr.heap.size:=by have:=hb.size; omega
  have hbx:wr.heap[w.heap.size]? = some (.cells #[.string s] 9 (0,0)):=(hb.block _ (by omega)).trans hbox
  have hc1:=cell1 hbx
  by_cases hlt:k < s.size
  ·have hwA:Box (∀ w',Below (wr.heap.size+1) (wr.alloc (.cells #[.int .i64 (k:Int)] 3)) w' → w'.cell? ⟨w.heap.size,0,none⟩ = some (.string s)∧w'.cell? ⟨wr.heap.size,0,none⟩ = some (.int .i64 (k:Int))∧Words w'∧Below wr.heap.size wr w'):=⟨fun w' hb'=>by
    have hbA:Below wr.heap.size wr w':=((Below.refl _ _).alloc (Nat.le_refl _) _).trans (hb'.mono (by omega))
    exact ⟨cell1 ((hbA.block _ (by omega)).trans hbx),cell1 ((hb'.block _ (by omega)).trans (alloc_new wr _)),(HW1.out.below hb (by omega)).below hbA (by omega),hbA⟩⟩
   have hsA:(wr.alloc (.cells #[.int .i64 (k:Int)] 3)).heap.size = wr.heap.size+1:=by simp
   have HFD:=Box.mk (findEsc (.pointer (some ⟨w.heap.size,0,none⟩)) (.pointer (some ⟨wr.heap.size,0,none⟩)) (fun x=>x.1 == s[k]) (wr.alloc (.cells #[.int .i64 (k:Int)] 3)) (hwA.out _ (Below.refl _ _)).2.2.1 (fun x w' hb'=>clEsc_any x _ _ s k w' (hwA.out w' (hb'.mono (by omega))).1 (hwA.out w' (hb'.mono (by omega))).2.1 hlt))
   have HL:Box ((Lib.byteCells (escS (s.data.toList.take k))).length ≤ 600000000):=⟨by
    have h1:=escS_len (s.data.toList.take k)
    rw [List.length_take,size_list] at h1
    simp only [Lib.byteCells,List.length_map]
    omega⟩
   rcases esc_find s[k] with ⟨x,hx1,hx2,hx3⟩ | ⟨hx1,hx2⟩
   ·have HN:Box (Lib.byteCells (escS (s.data.toList.take k))++Lib.strCells x.2 = Lib.byteCells (escS (s.data.toList.take (k+1)))):=⟨by rw [bcells_snoc,escS_take s k hlt,hx2]⟩
    rw [hx1] at HFD
    simp only [findV] at HFD
    clear hx1 hx2
    go_wp2_with fail
    refine HFD.out.mono ?_
    rintro e w2 ⟨rfl,hb2'⟩
    clear HFD
    have hbB:=(hwA.out w2 (hb2'.mono (by omega))).2.2.2
    have hs2:=hbB.size
    have HB2:=Box.mk (ib_below HB.out (hbB.alloc hs2 (.cells #[.int .u8 (x.1.toNat:Int),.string x.2] 225)))
    go_wp2_with fail
    refine (Tryz.Builder_WriteString (w.heap.size+1) (w.heap.size+1) _ x.2 _ HB2.out (by have:=HL.out; omega) (by simp; omega)).mono ?_
    rintro e w3 ⟨rfl,hA3,hb3,ho3⟩
    rw [HN.out] at hA3
    go_wp2
    go_roundg (s.size - (k+1))
    case measure=>omega
    case rel=>exact ⟨k+1,by omega,by go_num,(hb.trans ((hbB.alloc hs2 _).mono (by omega))).trans (hb3.mono (by omega)),⟨.inr hA3⟩,by omega⟩
   ·have HN:Box (Lib.byteCells (escS (s.data.toList.take k))++[.int .u8 (s[k].toNat:Int)] = Lib.byteCells (escS (s.data.toList.take (k+1)))):=⟨by rw [bcells_one,escS_take s k hlt,hx2]⟩
    rw [hx1] at HFD
    simp only [findV] at HFD
    clear hx1 hx2
    go_wp2_with fail
    refine HFD.out.mono ?_
    rintro e w2 ⟨rfl,hb2'⟩
    clear HFD
    obtain ⟨d1,d2,d3,hbB⟩:=hwA.out w2 (hb2'.mono (by omega))
    have hs2:=hbB.size
    have e1:=World.block_lt_of_cell? w2 _ d1
    have e2:=World.block_lt_of_cell? w2 _ d2
    have HB2:=Box.mk (ib_below HB.out (hbB.alloc hs2 (.cells #[.int .u8 0,.string ⟨#[]⟩] 225)))
    go_wp2_with fail
    refine (Tryz.Builder_WriteByte (w.heap.size+1) (w.heap.size+1) _ _ _ HB2.out (by have:=HL.out; omega) (by simp; omega)).mono ?_
    rintro e w3 ⟨rfl,hA3,hb3,ho3⟩
    rw [HN.out] at hA3
    go_wp2
    go_roundg (s.size - (k+1))
    case measure=>omega
    case rel=>exact ⟨k+1,by omega,by go_num,(hb.trans ((hbB.alloc hs2 _).mono (by omega))).trans (hb3.mono (by omega)),⟨.inr hA3⟩,by omega⟩
  ·have HD:Box (escS (s.data.toList.take k) = escS s.data.toList):=⟨by rw [List.take_of_length_le (by rw [size_list]; omega)]⟩
   rw [HD.out] at HB
   go_wp2_with fail
   refine (Tryz.Builder_String (w.heap.size+1) (w.heap.size+1) _ _ HB.out hsz).mono ?_
   rintro e w3 ⟨rfl,hA3,hb3,ho3⟩
   go_wp2
   go_ret
   exact ⟨_,rfl,rfl,hb1.trans ((hb.trans hb3).mono (by omega))⟩
end Go.Proofs.YtknhacbfddggpaaGreatDoor
namespace Go.Proofs.YtknhacbfddggpaaGreatDoor
open Go.RowKit Go.Proofs.Px
theorem signs_words:signs = wordsL.map fun x=>(x.2.data.toList,x.1):=rfl
theorem unescF_nil (n:Nat):unescF n [] = []:=by cases n <;> rfl
theorem sign_len (w:List UInt8 × UInt8) (h:w ∈ signs):1 ≤ w.1.length∧w.1.length ≤ 6:=by
 have:∀ w ∈ signs,1 ≤ w.1.length∧w.1.length ≤ 6:=by decide
 exact this w h
theorem unesc_fuel:∀ (n m:Nat) (l:List UInt8),l.length ≤ n → l.length ≤ m → unescF n l = unescF m l
 | n,m,[],_,_=>by rw [unescF_nil,unescF_nil]
 | 0,_,_ :: _,h,_=>absurd h (by simp)
 | _,0,_ :: _,_,h=>absurd h (by simp)
 | n+1,m+1,c :: r,hn,hm=>by
  rw [List.length_cons] at hn hm
  unfold unescF
  cases hf:signs.find? fun w=>w.1.isPrefixOf (smallS (c :: r)) with
  | none =>
   simp only [hf]
   rw [unesc_fuel n m r (by omega) (by omega)]
  | some w =>
   simp only [hf]
   have:=(sign_len w (List.mem_of_find?_eq_some hf)).1
   have hl:((c :: r).drop w.1.length).length ≤ r.length:=by rw [List.length_drop,List.length_cons]; omega
   rw [unesc_fuel n m _ (by omega) (by omega)]
theorem unesc_yes (c:UInt8) (r:List UInt8) (w:List UInt8 × UInt8) (hf:(signs.find? fun w=>w.1.isPrefixOf (smallS (c :: r))) = some w):unescS (c :: r) = w.2 :: unescS ((c :: r).drop w.1.length):=by
 have e:unescS (c :: r) = w.2 :: unescF r.length ((c :: r).drop w.1.length):=by
  show unescF (r.length+1) (c :: r) = _
  conv=>lhs; unfold unescF
  simp only [hf]
 have:=(sign_len w (List.mem_of_find?_eq_some hf)).1
 rw [e]
 unfold unescS
 rw [unesc_fuel r.length _ _ (by rw [List.length_drop,List.length_cons]; omega) (Nat.le_refl _)]
theorem unesc_no (c:UInt8) (r:List UInt8) (hf:(signs.find? fun w=>w.1.isPrefixOf (smallS (c :: r))) = none):unescS (c :: r) = c :: unescS r:=by
 show unescF (r.length+1) (c :: r) = _
 unfold unescF
 simp only [hf]
 rfl
theorem find_words (sm s:ByteArray) (k:Nat) (hsm:sm.data.toList = smallS s.data.toList):(signs.find? fun w=>w.1.isPrefixOf (smallS (s.data.toList.drop k))) = (wordsL.find? fun x=>x.2.data.toList.isPrefixOf (sm.data.toList.drop k)).map fun x=>(x.2.data.toList,x.1):=by
 rw [signs_words,List.find?_map,hsm]
 unfold smallS
 rw [List.map_drop]
 rfl
theorem said_find (sm s:ByteArray) (k:Nat) (hk:k < s.size) (hsm:sm.data.toList = smallS s.data.toList) :
  (∃ x,wordsL.find? (fun x=>x.2.data.toList.isPrefixOf (sm.data.toList.drop k)) = some x∧unescS (s.data.toList.drop k) = x.1 :: unescS (s.data.toList.drop (k+x.2.size))∧k+x.2.size ≤ s.size∧1 ≤ x.2.size) ∨
  (wordsL.find? (fun x=>x.2.data.toList.isPrefixOf (sm.data.toList.drop k)) = none∧unescS (s.data.toList.drop k) = s[k] :: unescS (s.data.toList.drop (k+1))):=by
 have hd:s.data.toList.drop k = s[k] :: s.data.toList.drop (k+1):=by
  rw [List.drop_eq_getElem_cons (by rw [size_list]; exact hk)]; rfl
 have hw:=find_words sm s k hsm
 cases hf:wordsL.find? (fun x=>x.2.data.toList.isPrefixOf (sm.data.toList.drop k)) with
 | none =>
  rw [hf] at hw
  refine .inr ⟨rfl,?_⟩
  rw [hd] at hw ⊢
  exact unesc_no _ _ hw
 | some x =>
  rw [hf] at hw
  have hp:=List.find?_some hf
  have hle:=(List.isPrefixOf_iff_prefix.1 hp).length_le
  rw [List.length_drop,size_list,size_list] at hle
  have hss:sm.size = s.size:=by rw [← size_list,hsm,← size_list]; unfold smallS; simp
  have h1:1 ≤ x.2.size:=by
   have:=(sign_len _ (List.mem_of_find?_eq_some hw)).1
   simp only at this
   rw [size_list] at this
   exact this
  refine .inl ⟨x,rfl,?_,by omega,h1⟩
  rw [hd] at hw
  have:=unesc_yes _ _ _ hw
  rw [← hd] at this
  rw [this]
  simp only
  rw [List.drop_drop,size_list]
theorem kept_heap {e:TypeId} {b:Nat} {w w':World} {k:Nat} {c:Array Value} {T:TypeId} {fz:Nat × Nat} (h:Lib.OthersKept e (some b) w w') (hk:w.heap[k]? = some (.cells c T fz)) (hb:k ≠ b) (hT:T ≠ e):w'.heap[k]? = some (.cells c T fz):=
 h k _ hk (by simpa using hb) (fun c' fz' e'=>by injection e' with _ h2 _; exact hT h2)
theorem ib_set {T e:TypeId} {B b:Nat} {bs:List Value} {W:World} (h:Lib.IsBuilderF T e B b bs W) {q:Nat} {c:Array Value} {U:TypeId} {fz:Nat × Nat} (hq:W.heap[q]? = some (.cells c U fz)) (h1:U ≠ T) (h2:U ≠ e) (i:Nat) (v:Value):Lib.IsBuilderF T e B b bs (W.setCell ⟨q,i,none⟩ v):=
 ib_keep h (fun k o hk ho=>by
  have hne:k ≠ q:=by
   rintro rfl
   rw [hq] at hk
   obtain ⟨c',fz',h | h⟩:=ho
   ·rw [h] at hk; injection hk with hk; injection hk with _ hk _; exact h1 hk
   ·rw [h] at hk; injection hk with hk; injection hk with _ hk _; exact h2 hk
  rw [heap_setCell_other W ⟨q,i,none⟩ k v hne]
  exact hk)
theorem ib_ne {T e:TypeId} {B b:Nat} {bs:List Value} {W:World} (h:Lib.IsBuilderF T e B b bs W) {q:Nat} {c:Array Value} {U:TypeId} {fz:Nat × Nat} (hq:W.heap[q]? = some (.cells c U fz)) (h1:U ≠ T):q ≠ b:=by
 rintro rfl
 rcases h with ⟨_,v,h2,_⟩ | ⟨_,v,h2,_⟩
 ·rw [hq] at h2; injection h2 with h2; injection h2 with _ h2 _; exact h1 h2
 ·rw [hq] at h2; injection h2 with h2; injection h2 with _ h2 _; exact h1 h2
theorem said_next {w w4:World} {q m k':Nat} {sm:ByteArray} {bs:List Value} {z:Int} {u:Value} (hz:z = (k':Int)) (hq:w4.heap[q]? = some (.cells #[u] 3 (0,0))) (hm:w4.heap[m]? = some (.cells #[.string sm] 9 (0,0))) (hI:Lib.IsBuilderF 153 5 w.heap.size w.heap.size bs w4) (hb:Below w.heap.size w w4) (hqB:w.heap.size ≤ q) :
  ((w4.setCell ⟨q,0,none⟩ (.int .i64 z)).alloc (.cells #[.int .i64 z] 3)).heap[w4.heap.size]? = some (.cells #[.int .i64 (k':Int)] 3 (0,0))∧((w4.setCell ⟨q,0,none⟩ (.int .i64 z)).alloc (.cells #[.int .i64 z] 3)).heap[m]? = some (.cells #[.string sm] 9 (0,0))∧Below w.heap.size w ((w4.setCell ⟨q,0,none⟩ (.int .i64 z)).alloc (.cells #[.int .i64 z] 3))∧Lib.IsBuilderF 153 5 w.heap.size w.heap.size bs ((w4.setCell ⟨q,0,none⟩ (.int .i64 z)).alloc (.cells #[.int .i64 z] 3)):=by
 subst hz
 have hsz:(w4.setCell ⟨q,0,none⟩ (.int .i64 (k':Int))).heap.size = w4.heap.size:=by simp
 have hmq:m ≠ q:=by
  rintro rfl
  rw [hq] at hm; injection hm with hm; injection hm with _ hm _; exact absurd hm (by decide)
 have hml:m < w4.heap.size:=(Array.getElem?_eq_some_iff.1 hm).1
 have h1:=ib_set hI hq (by decide) (by decide) 0 (.int .i64 (k':Int))
 refine ⟨?_,?_,?_,?_⟩
 ·rw [← hsz]; exact alloc_new _ _
 ·exact (Below.heap_alloc _ _ m (by rw [hsz]; exact hml)).trans ((heap_setCell_other w4 ⟨q,0,none⟩ m _ hmq).trans hm)
 ·exact (hb.setCell hqB _).alloc (by rw [hsz]; exact hb.size) _
 ·exact ib_below h1 ((Below.refl _ _).alloc (Nat.le_refl _) _)
set_option maxHeartbeats 2000000 in
set_option maxRecDepth 100000 in
theorem said_any (s:ByteArray) (w:World) (hW:Words w) (hs:s.size ≤ 100000000) :
  Calls Tryz.prog 230 #[.string s] w fun e w'=>∃ S:ByteArray,e = .returned (.string S)∧S.data.toList = unescS s.data.toList∧Below w.heap.size w w':=by
 have HB0:Box (Lib.IsBuilderF 153 5 w.heap.size w.heap.size (Lib.byteCells []) (w.alloc (.cells #[.pointer none,.slice none 0 0] 153))):=⟨Lib.IsBuilderF.of (.inl ⟨Nat.le_refl _,_,alloc_new w _,World.ownsRow_nil _ _ _ _,by simp [Value.ownBlock]⟩)⟩
 have hb0:Below w.heap.size w (w.alloc (.cells #[.pointer none,.slice none 0 0] 153)):=(Below.refl _ _).alloc (Nat.le_refl _) _
 have HW:=Box.mk hW
 have hg0:=hW.lt
 clear hW
 go_enter Tryz.func230,Tryz.ntmps230
 go_wp2_with fail
 refine (small_str s _ hs).mono ?_
 rintro e w1 ⟨sm,rfl,hsm,hb1⟩
 have hs1:w.heap.size+1 ≤ w1.heap.size:=by have:=hb1.size; simpa using this
 have HS:=Box.mk hsm
 have hss:sm.size = s.size:=by rw [← size_list,hsm,← size_list]; unfold smallS; simp
 clear hsm
 have hb2:Below w1.heap.size w1 (w1.alloc (.cells #[.string sm] 9)):=(Below.refl _ _).alloc (Nat.le_refl _) _
 have hb3:Below (w1.heap.size+1) (w1.alloc (.cells #[.string sm] 9)) ((w1.alloc (.cells #[.string sm] 9)).alloc (.cells #[.int .i64 0] 3)):=(Below.refl _ _).alloc (by simp) _
 have HB3:=Box.mk (ib_below HB0.out (hb1.trans ((hb2.trans (hb3.mono (by omega))).mono hb1.size)))
 have hbw3:Below w.heap.size w ((w1.alloc (.cells #[.string sm] 9)).alloc (.cells #[.int .i64 0] 3)):=hb0.trans ((hb1.trans ((hb2.trans (hb3.mono (by omega))).mono hb1.size)).mono (by simp))
 have hm0:((w1.alloc (.cells #[.string sm] 9)).alloc (.cells #[.int .i64 0] 3)).heap[w1.heap.size]? = some (.cells #[.string sm] 9 (0,0)):=(hb3.block _ (by omega)).trans (alloc_new w1 _)
 have hq0:((w1.alloc (.cells #[.string sm] 9)).alloc (.cells #[.int .i64 0] 3)).heap[w1.heap.size+1]? = some (.cells #[.int .i64 0] 3 (0,0)):=by
  have:=alloc_new (w1.alloc (.cells #[.string sm] 9)) (.cells #[.int .i64 0] 3)
  simpa using this
 clear HB0 hb0 hb1 hb2 hb3
 go_wp2
 go_loopg [5] s.size (fun gf x wx=>∃ (k q:Nat) (o:List UInt8),k ≤ s.size∧w.heap.size ≤ q∧x = .pointer (some ⟨q,0,none⟩)∧wx.heap[q]? = some (.cells #[.int .i64 (k:Int)] 3 (0,0))∧wx.heap[w1.heap.size]? = some (.cells #[.string sm] 9 (0,0))∧Below w.heap.size w wx∧Box (Lib.IsBuilderF 153 5 w.heap.size w.heap.size (Lib.byteCells o) wx)∧Box (o++unescS (s.data.toList.drop k) = unescS s.data.toList)∧o.length ≤ k∧s.size - k ≤ gf)
 case atStart=>exact ⟨0,w1.heap.size+1,[],Nat.zero_le _,by omega,by simp,hq0,hm0,hbw3,HB3,⟨by simp⟩,by simp,by omega⟩
 case round =>
  obtain ⟨k,q,o,hk,hqB,rfl,hq,hm,hb,HB,HT,ho,hgf⟩:=hrel
  clear HB3 hbw3 hm0 hq0
  have hqb:=ib_ne HB.out hq (by decide)
  have hmb:=ib_ne HB.out hm (by decide)
  have hql:q < wr.heap.size:=(Array.getElem?_eq_some_iff.1 hq).1
  have hml:w1.heap.size < wr.heap.size:=(Array.getElem?_eq_some_iff.1 hm).1
  have cq:=cell1 hq
  have hsz:=hb.size
  have HL:Box ((Lib.byteCells o).length ≤ 100000000):=⟨by simp only [Lib.byteCells,List.length_map]; omega⟩
  by_cases hlt:k < s.size
  ·have HFD:=Box.mk (findSaid (.pointer (some ⟨w1.heap.size,0,none⟩)) (.pointer (some ⟨q,0,none⟩)) (fun x=>x.2.data.toList.isPrefixOf (sm.data.toList.drop k)) wr (HW.out.below hb hg0) (fun x w' hb'=>clSaid_any x _ _ sm k w' (cell1 ((hb'.block _ hml).trans hm)) (cell1 ((hb'.block _ hql).trans hq)) (by omega)))
   rcases said_find sm s k hlt HS.out with ⟨x,hx1,hx2,hx3,hx4⟩ | ⟨hx1,hx2⟩
   ·have HN:Box ((o++[x.1])++unescS (s.data.toList.drop (k+x.2.size)) = unescS s.data.toList):=⟨by rw [← HT.out,hx2]; simp⟩
    rw [hx1] at HFD
    simp only [findV] at HFD
    clear hx1 hx2 HT
    go_wp2_with fail
    refine HFD.out.mono ?_
    rintro e w2 ⟨rfl,hb2⟩
    clear HFD
    have hs2:=hb2.size
    have hb3:Below wr.heap.size wr (w2.alloc (.cells #[.int .u8 (x.1.toNat:Int),.string x.2] 225)):=hb2.alloc hs2 _
    have HB3:=Box.mk (ib_below HB.out hb3)
    have HQ3:=Box.mk ((hb3.block q hql).trans hq)
    have HM3:=Box.mk ((hb3.block _ hml).trans hm)
    have HX3:=Box.mk (alloc_new w2 (.cells #[.int .u8 (x.1.toNat:Int),.string x.2] 225))
    go_wp2_with fail
    refine (Tryz.Builder_WriteByte w.heap.size w.heap.size _ _ _ HB3.out (by have:=HL.out; omega) (by simp; omega)).mono ?_
    rintro e w4 ⟨rfl,hA4,hb4,ho4⟩
    rw [bcells_one] at hA4
    have hq4:=kept_heap ho4 HQ3.out hqb (by decide)
    have hm4:=kept_heap ho4 HM3.out hmb (by decide)
    have hx5:=kept_heap ho4 HX3.out (by omega) (by decide)
    have hbw4:Below w.heap.size w w4:=(hb.trans (hb3.mono hsz)).trans hb4
    obtain ⟨y0,y1,y2,y3,y4⟩:=obj2_of hx5
    have z0:=cell1 hq4
    have zf:w4.frozen? ⟨q,0,none⟩ = false:=by simp [World.frozen?,hq4]
    have zl:q < w4.heap.size:=(Array.getElem?_eq_some_iff.1 hq4).1
    have HX:=Box.mk (said_next (k':=k+x.2.size) (z:=(k:Int)+(x.2.size:Int)) (by simp) hq4 hm4 (.inr hA4) hbw4 hqB)
    clear hq4 hm4 hx5 hA4 hb4 ho4 HX3 HM3 HQ3 HB3
    go_wp2
    go_roundg (s.size - (k+x.2.size))
    case measure=>omega
    case rel=>exact ⟨k+x.2.size,w4.heap.size,o++[x.1],by omega,Nat.le_trans hqB (Nat.le_of_lt zl),by simp,HX.out.1,HX.out.2.1,HX.out.2.2.1,⟨HX.out.2.2.2⟩,HN,by simp; omega,by omega⟩
   ·have HN:Box ((o++[s[k]])++unescS (s.data.toList.drop (k+1)) = unescS s.data.toList):=⟨by rw [← HT.out,hx2]; simp⟩
    rw [hx1] at HFD
    simp only [findV] at HFD
    clear hx1 hx2 HT
    go_wp2_with fail
    refine HFD.out.mono ?_
    rintro e w2 ⟨rfl,hb2⟩
    clear HFD
    have hs2:=hb2.size
    have hb3:Below wr.heap.size wr (w2.alloc (.cells #[.int .u8 0,.string ⟨#[]⟩] 225)):=hb2.alloc hs2 _
    have HB3:=Box.mk (ib_below HB.out hb3)
    have HQ3:=Box.mk ((hb3.block q hql).trans hq)
    have HM3:=Box.mk ((hb3.block _ hml).trans hm)
    have cq2:=cell1 ((hb2.block q hql).trans hq)
    have cl2:q < w2.heap.size:=by omega
    go_wp2_with fail
    refine (Tryz.Builder_WriteByte w.heap.size w.heap.size _ _ _ HB3.out (by have:=HL.out; omega) (by simp; omega)).mono ?_
    rintro e w4 ⟨rfl,hA4,hb4,ho4⟩
    rw [bcells_one] at hA4
    have hq4:=kept_heap ho4 HQ3.out hqb (by decide)
    have hm4:=kept_heap ho4 HM3.out hmb (by decide)
    have hbw4:Below w.heap.size w w4:=(hb.trans (hb3.mono hsz)).trans hb4
    have z0:=cell1 hq4
    have zf:w4.frozen? ⟨q,0,none⟩ = false:=by simp [World.frozen?,hq4]
    have zl:q < w4.heap.size:=(Array.getElem?_eq_some_iff.1 hq4).1
    have HX:=Box.mk (said_next (k':=k+1) (z:=(k:Int)+1) (by simp) hq4 hm4 (.inr hA4) hbw4 hqB)
    clear hq4 hm4 hA4 hb4 ho4 HM3 HQ3 HB3
    go_wp2
    go_roundg (s.size - (k+1))
    case measure=>omega
    case rel=>exact ⟨k+1,w4.heap.size,o++[s[k]],by omega,Nat.le_trans hqB (Nat.le_of_lt zl),by simp,HX.out.1,HX.out.2.1,HX.out.2.2.1,⟨HX.out.2.2.2⟩,HN,by simp; omega,by omega⟩
  ·have HD:Box (o = unescS s.data.toList):=⟨by
    rw [← HT.out,List.drop_of_length_le (by rw [size_list]; omega)]
    simp [unescS,unescF]⟩
   go_wp2_with fail
   refine (Tryz.Builder_String w.heap.size w.heap.size _ _ HB.out hsz).mono ?_
   rintro e w3 ⟨rfl,hA3,hb3,ho3⟩
   go_wp2
   go_ret
   exact ⟨_,rfl,HD.out,hb.trans hb3⟩
end Go.Proofs.YtknhacbfddggpaaGreatDoor
namespace Go.Proofs.YtknhacbfddggpaaGreatDoor
open Go.RowKit Go.Proofs.Px
theorem obj3_of {w:World} {b:Nat} {u v x:Value} {T:TypeId} (h:w.heap[b]? = some (.cells #[u,v,x] T (0,0))):w.cell? ⟨b,0,none⟩ = some u∧w.cell? ⟨b,1,none⟩ = some v∧w.cell? ⟨b,2,none⟩ = some x∧w.frozen? ⟨b,0,none⟩ = false∧w.frozen? ⟨b,1,none⟩ = false∧w.frozen? ⟨b,2,none⟩ = false∧b < w.heap.size:=
 ⟨by simp [World.cell?,h],by simp [World.cell?,h],by simp [World.cell?,h],by simp [World.frozen?,h],by simp [World.frozen?,h],by simp [World.frozen?,h],(Array.getElem?_eq_some_iff.1 h).1⟩
theorem PR.setO {w:World} {b a q i:Nat} {pg sm:ByteArray} {L v:Value} (h:PR w b pg sm a L) (hq:b ≠ q):PR (w.setCell ⟨q,i,none⟩ v) b pg sm a L:=(heap_setCell_other w ⟨q,i,none⟩ b v hq).trans h
theorem grown_new {w w':World} {r:Option Nat} {q i:Nat} {v:Value} (h:w.grownBy w' r) (hq:w.heap.size ≤ q):w.grownBy (w'.setCell ⟨q,i,none⟩ v) r:=
 ⟨h.os,h.tape,h.output,by simpa using h.size,fun k hk hr=>(heap_setCell_other w' ⟨q,i,none⟩ k v (by show k ≠ q; omega)).trans (h.block k hk hr)⟩
def quotesA:ByteArray:=⟨#[34,39]⟩
def bareA:ByteArray:=⟨#[32,9,13,10,62]⟩
def zeroL:Obj:=.cells #[.int .i64 0,.int .i64 0,.string ⟨#[]⟩] 80
set_option maxHeartbeats 2000000 in
set_option maxRecDepth 100000 in
theorem value_bare_no (b a:Nat) (pg sm:ByteArray) (L:Value) (w:World) (h:PR w b pg sm a L) (hl:pg.size ≤ 100000000) (hs:sm.size = pg.size) (ha:a ≤ pg.size) (hq:isAtB quotesA sm a = false) (hend:a+untilN bareA.data.toList sm.data.toList a = pg.size) :
  Calls Tryz.prog 221 #[.pointer (some ⟨b,0,none⟩)] w fun e w'=>e = .returned (.tuple #[.agg #[.int .i64 0,.int .i64 0,.string ⟨#[]⟩],.bool false])∧PR w' b pg sm pg.size L∧w.grownBy w' (some b):=by
 have hblt:=h.cells.2.2.2.2.2.2
 have hb0:Below w.heap.size w (w.alloc zeroL):=(Below.refl _ _).alloc (Nat.le_refl _) _
 have HP:=Box.mk (h.below hb0 hblt)
 have hz0:=alloc_new w zeroL
 unfold zeroL at hz0 hb0 HP
 clear h
 have HQ:=Box.mk hq
 have HE:=Box.mk hend
 clear hq hend
 go_enter Tryz.func221,Tryz.ntmps221
 go_wp2_with fail
 refine (isAt_any b a pg sm quotesA L _ HP.out hs ha).mono ?_
 rw [HQ.out]
 rintro e w1 ⟨rfl,hb1⟩
 have hs1:=hb1.size
 have HP1:=Box.mk (HP.out.below hb1 (by simp; omega))
 obtain ⟨c0,c1,c2,c3,f2,f3,hbl⟩:=HP1.out.cells
 have HZ1:=Box.mk ((hb1.block w.heap.size (by simp)).trans hz0)
 have hg1:=(pgrown_of hb0 (some b)).trans (pgrown_of (hb1.mono (by simp)) (some b))
 go_wp2_with fail
 refine (until_any b a pg sm bareA L _ HP1.out hl hs ha).mono ?_
 rw [HE.out]
 rintro e w2 ⟨rfl,hP2,_,hg2⟩
 have hs2:=hg2.size
 have hw1:w.heap.size < w1.heap.size:=by have:=hb1.size; simp at this; omega
 have HZ2:=Box.mk ((hg2.block w.heap.size hw1 (by simp; omega)).trans HZ1.out)
 have hg3:=hg1.trans hg2
 have HP2:=Box.mk hP2
 clear hP2
 go_wp2_with fail
 refine (atEnd_any b pg.size pg sm L _ HP2.out).mono ?_
 rw [decide_eq_true (rfl:pg.size = pg.size)]
 rintro e w3 ⟨rfl,rfl⟩
 obtain ⟨y0,y1,y2,y3,y4,y5,y6⟩:=obj3_of HZ2.out
 go_wp2
 refine bodyPost_ret (v:=.tuple #[.agg #[.int .i64 0,.int .i64 0,.string ⟨#[]⟩],.bool false]) (by simp [results,Tryz.results221,go_sem,y0,y1,y2]) rfl ⟨rfl,?_⟩
 exact ⟨(((HP2.out.below (Below.refl w2.heap.size w2).drew HP2.out.cells.2.2.2.2.2.2).setO (by omega)).setO (by omega)).setO (by omega),grown_new (grown_new (grown_new (hg3.trans (pgrown_of (Below.refl w2.heap.size w2).drew _)) (Nat.le_refl _)) (Nat.le_refl _)) (Nat.le_refl _)⟩
end Go.Proofs.YtknhacbfddggpaaGreatDoor
namespace Go.Proofs.YtknhacbfddggpaaGreatDoor
open Go.RowKit Go.Proofs.Px
theorem pkeep2 {W w':World} {p q:Addr} {u v:Value} (h0:W.cell? p = some u) (h1:W.cell? q = some v) (hb:Below W.heap.size W w'):w'.cell? p = some u∧w'.cell? q = some v∧Below W.heap.size W w':=
 ⟨(hb.cell (p:=p) (World.block_lt_of_cell? W _ h0)).trans h0,(hb.cell (p:=q) (World.block_lt_of_cell? W _ h1)).trans h1,hb⟩
set_option maxHeartbeats 2000000 in
set_option maxRecDepth 100000 in
theorem value_bare_yes (b a t:Nat) (pg sm:ByteArray) (L:Value) (w:World) (h:PR w b pg sm a L) (hW:Words w) (hgb:4 ≠ b) (hl:pg.size ≤ 100000000) (hs:sm.size = pg.size) (ha:a ≤ pg.size) (hq:isAtB quotesA sm a = false) (hend:a+untilN bareA.data.toList sm.data.toList a = t) (ht:t < pg.size) (hat:a ≤ t) :
  Calls Tryz.prog 221 #[.pointer (some ⟨b,0,none⟩)] w fun e w'=>(∃ V:ByteArray,e = .returned (.tuple #[.agg #[.int .i64 (a:Int),.int .i64 ((t - a:Nat):Int),.string V],.bool true])∧V.data.toList = unescS ((pg.data.toList.drop a).take (t - a)))∧PR w' b pg sm t L∧w.grownBy w' (some b):=by
 have hblt:=h.cells.2.2.2.2.2.2
 have hb0:Below w.heap.size w (w.alloc zeroL):=(Below.refl _ _).alloc (Nat.le_refl _) _
 have HP:=Box.mk (h.below hb0 hblt)
 have hz0:=alloc_new w zeroL
 unfold zeroL at hz0 hb0 HP
 clear h
 have HQ:=Box.mk hq
 have HE:=Box.mk hend
 have hgl:=hW.lt
 have HW:=Box.mk hW
 clear hq hend hW
 have hd:decide (t = pg.size) = false:=decide_eq_false (by omega)
 have ex:(pg.extract a t).data.toList = (pg.data.toList.drop a).take (t - a):=extract_list pg a t
 have hex:(pg.extract a t).size ≤ 100000000:=by simp; omega
 go_enter Tryz.func221,Tryz.ntmps221
 go_wp2_with fail
 refine (isAt_any b a pg sm quotesA L _ HP.out hs ha).mono ?_
 rw [HQ.out]
 rintro e w1 ⟨rfl,hb1⟩
 have hs1:=hb1.size
 have HP1:=Box.mk (HP.out.below hb1 (by simp; omega))
 obtain ⟨c0,c1,c2,c3,f2,f3,hbl⟩:=HP1.out.cells
 have HZ1:=Box.mk ((hb1.block w.heap.size (by simp)).trans hz0)
 have hg1:=(pgrown_of hb0 (some b)).trans (pgrown_of (hb1.mono (by simp)) (some b))
 go_wp2_with fail
 refine (until_any b a pg sm bareA L _ HP1.out hl hs ha).mono ?_
 rw [HE.out]
 rintro e w2 ⟨rfl,hP2,_,hg2⟩
 have hs2:=hg2.size
 have hw1:w.heap.size < w1.heap.size:=by have:=hb1.size; simp at this; omega
 have HZ2:=Box.mk ((hg2.block w.heap.size hw1 (by simp; omega)).trans HZ1.out)
 have hg3:=hg1.trans hg2
 have HP2:=Box.mk hP2
 clear hP2 c0 c1 c2 c3 f2 f3 HZ1 hg2 hb1 hb0 hz0
 go_wp2_with fail
 refine (atEnd_any b t pg sm L _ HP2.out).mono ?_
 rw [hd]
 rintro e w3 ⟨rfl,rfl⟩
 obtain ⟨W,hWe⟩:∃ W,W = w2.drew:=⟨_,rfl⟩
 have hbW:Below w2.heap.size w2 W:=by rw [hWe]; exact (Below.refl _ _).drew
 rw [← hWe]
 have hgW:=hg3.trans (pgrown_of hbW (some b))
 have HPW:=Box.mk (HP2.out.below hbW HP2.out.cells.2.2.2.2.2.2)
 have HZW:=Box.mk ((hbW.block w.heap.size (by omega)).trans HZ2.out)
 have HWW:Box (Words W):=⟨by
  have key:∀ (i:Nat) (v:Value),w.cell? ⟨4,i,none⟩ = some v → W.cell? ⟨4,i,none⟩ = some v:=fun i v hv=>by
   have e:=hgW.block 4 hgl (by simpa using hgb)
   unfold World.cell? at hv ⊢
   simp only [e]
   exact hv
  have h:=HW.out
  exact ⟨key _ _ h.c0,key _ _ h.c1,key _ _ h.c2,key _ _ h.c3,key _ _ h.c4,key _ _ h.c5,key _ _ h.c6,key _ _ h.c7,key _ _ h.c8,key _ _ h.c9⟩⟩
 have hgW0:=HWW.out.lt
 obtain ⟨c0,c1,c2,c3,f2,f3,hbl⟩:=HPW.out.cells
 obtain ⟨y0,y1,y2,y3,y4,y5,y6⟩:=obj3_of HZW.out
 clear hWe HP2 HZ2 HP1 HP hbW
 have k1:(0:Int) ≤ (a:Int):=by omega
 have k2:(a:Int) ≤ (t:Int):=by omega
 have k3:(t:Int) ≤ (pg.size:Int):=by omega
 have hwr:IntKind.i64.wrap ((t:Int) - (a:Int)) = ((t - a:Nat):Int):=by
  rw [IntKind.wrap_i64]
  omega
 go_wp2_with fail
 go_region_held3 (fun w'=>w'.cell? ⟨b,0,none⟩ = some (.string pg)∧w'.cell? ⟨b,2,none⟩ = some (.int .i64 (t:Int))∧Below W.heap.size W w')
  ((go_split_ands; exact pkeep2 c0 c2 (by first | exact (Below.refl _ _).drew | assumption | exact Below.alloc (by assumption) (Below.size (by assumption)) _ | exact Below.trans (by assumption) (Below.mono hb5 (Below.size (by assumption))) | exact Below.alloc ((Below.refl W.heap.size W).drew.trans hb5) hb5.size _ | (iterate 3 (refine Below.setCell ?_ (by simp) _)); assumption)))
  (first
   | (go_at_call 230; refine (said_any (pg.extract a t) _ (HWW.out.below (by first | exact (Below.refl _ _).drew | exact ((Below.refl _ _).drew.alloc (Nat.le_refl _) _) | assumption) hgW0) hex).mono ?_; rintro e w5 ⟨V,rfl,hV,hb5⟩; (try obtain ⟨z0,z1,z2,z3,z4,z5,z6⟩:=obj3_of ((hb5.block W.heap.size (by simp)).trans (alloc_new _ _)))))
 ·have hbW5:Below W.heap.size W w5:=(Below.refl _ _).drew.trans hb5
  have hs5:=hbW5.size
  obtain ⟨W6,hW6⟩:∃ W6,W6 = w5.alloc (.cells #[.int .i64 (a:Int),.int .i64 ((t - a:Nat):Int),.string V] 80):=⟨_,rfl⟩
  rw [← hW6]
  have hb6:Below W.heap.size W W6:=by rw [hW6]; exact hbW5.alloc hs5 _
  have hn6:W6.heap[w5.heap.size]? = some (.cells #[.int .i64 (a:Int),.int .i64 ((t - a:Nat):Int),.string V] 80 (0,0)):=by rw [hW6]; exact alloc_new w5 _
  obtain ⟨x0,x1,x2,x3,x4,x5,x6⟩:=obj3_of ((hb6.block w.heap.size y6).trans HZW.out)
  obtain ⟨z0,z1,z2,z3,z4,z5,z6⟩:=obj3_of hn6
  have HP6:=Box.mk (HPW.out.below hb6 hbl)
  have hg6:=hgW.trans (pgrown_of hb6 (some b))
  clear hW6 hn6 hb6 hbW5 hb5 HPW hgW y0 y1 y2 y3 y4 y5 c0 c1 c2 c3 f2 f3
  go_wp2
  refine bodyPost_ret (v:=.tuple #[.agg #[.int .i64 (a:Int),.int .i64 ((t - a:Nat):Int),.string V],.bool true]) (by simp [results,Tryz.results221,go_sem,x0,x1,x2]) rfl ⟨⟨V,rfl,by rw [hV,ex]⟩,?_,?_⟩
  ·exact ((HP6.out.setO (by omega)).setO (by omega)).setO (by omega)
  ·exact grown_new (grown_new (grown_new hg6 (Nat.le_refl _)) (Nat.le_refl _)) (Nat.le_refl _)
 ·have hbW5:Below W.heap.size W w5:=((Below.refl _ _).drew.alloc (Nat.le_refl _) _).trans (hb5.mono (by simp))
  have hs5:=hbW5.size
  obtain ⟨x0,x1,x2,x3,x4,x5,x6⟩:=obj3_of ((hbW5.block w.heap.size y6).trans HZW.out)
  have hne:w.heap.size ≠ W.heap.size:=by omega
  go_wp2
  refine bodyPost_ret (v:=.tuple #[.agg #[.int .i64 (a:Int),.int .i64 ((t - a:Nat):Int),.string V],.bool true]) (by simp [results,Tryz.results221,go_sem,x0,x1,x2]) rfl ⟨⟨V,rfl,by rw [hV,ex]⟩,?_,?_⟩
  ·repeat (refine PR.setO ?_ (by omega))
   exact HPW.out.below hbW5 hbl
  ·repeat (refine grown_new ?_ (by omega))
   exact hgW.trans (pgrown_of hbW5 _)
end Go.Proofs.YtknhacbfddggpaaGreatDoor
namespace Go.Proofs.YtknhacbfddggpaaGreatDoor
open Go.RowKit Go.Proofs.Px
set_option maxHeartbeats 2000000 in
set_option maxRecDepth 100000 in
theorem value_quo_no (b a:Nat) (pg sm:ByteArray) (L:Value) (w:World) (h:PR w b pg sm a L) (hl:pg.size ≤ 100000000) (hs:sm.size = pg.size) (ha:a < pg.size) (hq:isAtB quotesA sm a = true) (hend:(a+1)+untilN (pg.extract a (a+1)).data.toList sm.data.toList (a+1) = pg.size) :
  Calls Tryz.prog 221 #[.pointer (some ⟨b,0,none⟩)] w fun e w'=>e = .returned (.tuple #[.agg #[.int .i64 0,.int .i64 0,.string ⟨#[]⟩],.bool false])∧PR w' b pg sm pg.size L∧w.grownBy w' (some b):=by
 have hblt:=h.cells.2.2.2.2.2.2
 have hb0:Below w.heap.size w (w.alloc zeroL):=(Below.refl _ _).alloc (Nat.le_refl _) _
 have HP:=Box.mk (h.below hb0 hblt)
 have hz0:=alloc_new w zeroL
 unfold zeroL at hz0 hb0 HP
 clear h
 have HQ:=Box.mk hq
 have HE:=Box.mk hend
 clear hq hend
 have k1:(0:Int) ≤ (a:Int):=by omega
 have k2:(a:Int)+1 ≤ (pg.size:Int):=by omega
 go_enter Tryz.func221,Tryz.ntmps221
 go_wp2_with fail
 refine (isAt_any b a pg sm quotesA L _ HP.out hs (by omega)).mono ?_
 rw [HQ.out]
 rintro e w1 ⟨rfl,hb1⟩
 have hs1:=hb1.size
 have HP1:=Box.mk (HP.out.below hb1 (by simp; omega))
 obtain ⟨c0,c1,c2,c3,f2,f3,hbl⟩:=HP1.out.cells
 have HZ1:=Box.mk ((hb1.block w.heap.size (by simp)).trans hz0)
 have hg1:=(pgrown_of hb0 (some b)).trans (pgrown_of (hb1.mono (by simp)) (some b))
 have hw1:w.heap.size < w1.heap.size:=by have:=hb1.size; simp at this; omega
 have HP1':=Box.mk ((HP1.out.below (Below.refl w1.heap.size w1).drew hbl).setA (a+1))
 rw [Int.natCast_add] at HP1'
 go_wp2_with fail
 go_region
 go_wp2_with fail
 refine (until_any b (a+1) pg sm (pg.extract a (a+1)) L _ HP1'.out hl hs ha).mono ?_
 rw [HE.out]
 rintro e w2 ⟨rfl,hP2,_,hg2⟩
 have hs2:=hg2.size
 have HZ2:=Box.mk ((hg2.block w.heap.size (by simp; exact hw1) (by simp; omega)).trans ((heap_setCell_other _ ⟨b,2,none⟩ w.heap.size _ (by show w.heap.size ≠ b; omega)).trans HZ1.out))
 have hg3:=((hg1.trans (pgrown_of (Below.refl w1.heap.size w1).drew _)).trans (pgrown_set _ _ _ _)).trans hg2
 have HP2:=Box.mk hP2
 clear hP2
 go_wp2_with fail
 refine (atEnd_any b pg.size pg sm L _ HP2.out).mono ?_
 rw [decide_eq_true (rfl:pg.size = pg.size)]
 rintro e w3 ⟨rfl,rfl⟩
 obtain ⟨y0,y1,y2,y3,y4,y5,y6⟩:=obj3_of HZ2.out
 go_wp2
 refine bodyPost_ret (v:=.tuple #[.agg #[.int .i64 0,.int .i64 0,.string ⟨#[]⟩],.bool false]) (by simp [results,Tryz.results221,go_sem,y0,y1,y2]) rfl ⟨rfl,?_⟩
 exact ⟨(((HP2.out.below (Below.refl w2.heap.size w2).drew HP2.out.cells.2.2.2.2.2.2).setO (by omega)).setO (by omega)).setO (by omega),grown_new (grown_new (grown_new (hg3.trans (pgrown_of (Below.refl w2.heap.size w2).drew _)) (Nat.le_refl _)) (Nat.le_refl _)) (Nat.le_refl _)⟩
end Go.Proofs.YtknhacbfddggpaaGreatDoor
namespace Go.Proofs.YtknhacbfddggpaaGreatDoor
open Go.RowKit Go.Proofs.Px
set_option maxHeartbeats 2000000 in
set_option maxRecDepth 100000 in
theorem value_quo_yes (b a t:Nat) (pg sm:ByteArray) (L:Value) (w:World) (h:PR w b pg sm a L) (hW:Words w) (hgb:4 ≠ b) (hl:pg.size ≤ 100000000) (hs:sm.size = pg.size) (ha:a < pg.size) (hq:isAtB quotesA sm a = true) (hend:(a+1)+untilN (pg.extract a (a+1)).data.toList sm.data.toList (a+1) = t) (ht:t < pg.size) (hat:a+1 ≤ t) :
  Calls Tryz.prog 221 #[.pointer (some ⟨b,0,none⟩)] w fun e w'=>(∃ V:ByteArray,e = .returned (.tuple #[.agg #[.int .i64 ((a:Int)+1),.int .i64 ((t - (a+1):Nat):Int),.string V],.bool true])∧V.data.toList = unescS ((pg.data.toList.drop (a+1)).take (t - (a+1))))∧PR w' b pg sm (t+1) L∧w.grownBy w' (some b):=by
 have hblt:=h.cells.2.2.2.2.2.2
 have hb0:Below w.heap.size w (w.alloc zeroL):=(Below.refl _ _).alloc (Nat.le_refl _) _
 have HP:=Box.mk (h.below hb0 hblt)
 have hz0:=alloc_new w zeroL
 unfold zeroL at hz0 hb0 HP
 clear h
 have HQ:=Box.mk hq
 have HE:=Box.mk hend
 have hgl:=hW.lt
 have HW:=Box.mk hW
 clear hq hend hW
 have hd:decide (t = pg.size) = false:=decide_eq_false (by omega)
 have ex:(pg.extract (a+1) t).data.toList = (pg.data.toList.drop (a+1)).take (t - (a+1)):=extract_list pg (a+1) t
 have hex:(pg.extract (a+1) t).size ≤ 100000000:=by simp; omega
 have q1:(0:Int) ≤ (a:Int):=by omega
 have q2:(a:Int)+1 ≤ (pg.size:Int):=by omega
 go_enter Tryz.func221,Tryz.ntmps221
 go_wp2_with fail
 refine (isAt_any b a pg sm quotesA L _ HP.out hs (by omega)).mono ?_
 rw [HQ.out]
 rintro e w1 ⟨rfl,hb1⟩
 have hs1:=hb1.size
 have HP1:=Box.mk (HP.out.below hb1 (by simp; omega))
 obtain ⟨c0,c1,c2,c3,f2,f3,hbl⟩:=HP1.out.cells
 have HZ1:=Box.mk ((hb1.block w.heap.size (by simp)).trans hz0)
 have hg1:=(pgrown_of hb0 (some b)).trans (pgrown_of (hb1.mono (by simp)) (some b))
 have hw1:w.heap.size < w1.heap.size:=by have:=hb1.size; simp at this; omega
 have HP1':=Box.mk ((HP1.out.below (Below.refl w1.heap.size w1).drew hbl).setA (a+1))
 rw [Int.natCast_add] at HP1'
 go_wp2_with fail
 go_region
 go_wp2_with fail
 refine (until_any b (a+1) pg sm (pg.extract a (a+1)) L _ HP1'.out hl hs ha).mono ?_
 rw [HE.out]
 rintro e w2 ⟨rfl,hP2,_,hg2⟩
 have hs2:=hg2.size
 have hw2:w1.heap.size ≤ w2.heap.size:=by simpa using hs2
 have HZ2:=Box.mk ((hg2.block w.heap.size (by simp; exact hw1) (by simp; omega)).trans ((heap_setCell_other _ ⟨b,2,none⟩ w.heap.size _ (by show w.heap.size ≠ b; omega)).trans HZ1.out))
 have hg3:=((hg1.trans (pgrown_of (Below.refl w1.heap.size w1).drew _)).trans (pgrown_set _ _ _ _)).trans hg2
 have HP2:=Box.mk hP2
 clear hP2 c0 c1 c2 c3 f2 f3 HZ1 HP1' hg2 hb1 hb0 hz0
 go_wp2_with fail
 refine (atEnd_any b t pg sm L _ HP2.out).mono ?_
 rw [hd]
 rintro e w3 ⟨rfl,rfl⟩
 obtain ⟨W,hWe⟩:∃ W,W = w2.drew:=⟨_,rfl⟩
 have hbW:Below w2.heap.size w2 W:=by rw [hWe]; exact (Below.refl _ _).drew
 rw [← hWe]
 have hgW:=hg3.trans (pgrown_of hbW (some b))
 have HPW:=Box.mk (HP2.out.below hbW HP2.out.cells.2.2.2.2.2.2)
 have HZW:=Box.mk ((hbW.block w.heap.size (by omega)).trans HZ2.out)
 have HWW:Box (Words W):=⟨by
  have key:∀ (i:Nat) (v:Value),w.cell? ⟨4,i,none⟩ = some v → W.cell? ⟨4,i,none⟩ = some v:=fun i v hv=>by
   have e:=hgW.block 4 hgl (by simpa using hgb)
   unfold World.cell? at hv ⊢
   simp only [e]
   exact hv
  have h:=HW.out
  exact ⟨key _ _ h.c0,key _ _ h.c1,key _ _ h.c2,key _ _ h.c3,key _ _ h.c4,key _ _ h.c5,key _ _ h.c6,key _ _ h.c7,key _ _ h.c8,key _ _ h.c9⟩⟩
 have hgW0:=HWW.out.lt
 obtain ⟨c0,c1,c2,c3,f2,f3,hbl⟩:=HPW.out.cells
 obtain ⟨y0,y1,y2,y3,y4,y5,y6⟩:=obj3_of HZW.out
 clear hWe HP2 HZ2 HP1 HP hbW
 have k1:(0:Int) ≤ (a:Int)+1:=by omega
 have k2:(a:Int)+1 ≤ (t:Int):=by omega
 have k3:(t:Int) ≤ (pg.size:Int):=by omega
 have hwr:IntKind.i64.wrap ((t:Int) - ((a:Int)+1)) = ((t - (a+1):Nat):Int):=by
  rw [IntKind.wrap_i64]
  omega
 go_wp2_with fail
 go_region_held3 (fun w'=>w'.cell? ⟨b,0,none⟩ = some (.string pg)∧w'.cell? ⟨b,2,none⟩ = some (.int .i64 (t:Int))∧Below W.heap.size W w')
  ((go_split_ands; exact pkeep2 c0 c2 (by first | exact (Below.refl _ _).drew | assumption | exact Below.alloc (by assumption) (Below.size (by assumption)) _ | exact Below.trans (by assumption) (Below.mono hb5 (Below.size (by assumption))) | exact Below.alloc ((Below.refl W.heap.size W).drew.trans hb5) hb5.size _ | (iterate 3 (refine Below.setCell ?_ (by simp) _)); assumption)))
  (first
   | (go_at_call 230; refine (said_any (pg.extract (a+1) t) _ (HWW.out.below (by first | exact (Below.refl _ _).drew | exact ((Below.refl _ _).drew.alloc (Nat.le_refl _) _) | assumption) hgW0) hex).mono ?_; rintro e w5 ⟨V,rfl,hV,hb5⟩; (try obtain ⟨z0,z1,z2,z3,z4,z5,z6⟩:=obj3_of ((hb5.block W.heap.size (by simp)).trans (alloc_new _ _)))))
 ·have hbW5:Below W.heap.size W w5:=(Below.refl _ _).drew.trans hb5
  have hs5:=hbW5.size
  obtain ⟨W6,hW6⟩:∃ W6,W6 = w5.alloc (.cells #[.int .i64 ((a:Int)+1),.int .i64 ((t - (a+1):Nat):Int),.string V] 80):=⟨_,rfl⟩
  rw [← hW6]
  have hb6:Below W.heap.size W W6:=by rw [hW6]; exact hbW5.alloc hs5 _
  have hn6:W6.heap[w5.heap.size]? = some (.cells #[.int .i64 ((a:Int)+1),.int .i64 ((t - (a+1):Nat):Int),.string V] 80 (0,0)):=by rw [hW6]; exact alloc_new w5 _
  obtain ⟨x0,x1,x2,x3,x4,x5,x6⟩:=obj3_of ((hb6.block w.heap.size y6).trans HZW.out)
  obtain ⟨z0,z1,z2,z3,z4,z5,z6⟩:=obj3_of hn6
  have HP6:=Box.mk (HPW.out.below hb6 hbl)
  have hg6:=hgW.trans (pgrown_of hb6 (some b))
  clear hW6 hn6 hb6 hbW5 hb5 HPW hgW y0 y1 y2 y3 y4 y5 c0 c1 c2 c3 f2 f3
  obtain ⟨d0,d1,d2,d3,g2,g3,dl⟩:=HP6.out.cells
  have HP7:=Box.mk (HP6.out.setA (t+1))
  rw [Int.natCast_add] at HP7
  have n1:b ≠ w.heap.size:=by omega
  have n2:b ≠ w5.heap.size:=by omega
  go_wp2
  refine bodyPost_ret (v:=.tuple #[.agg #[.int .i64 ((a:Int)+1),.int .i64 ((t - (a+1):Nat):Int),.string V],.bool true]) (by simp [results,Tryz.results221,go_sem,x0,x1,x2]) rfl ⟨⟨V,rfl,by rw [hV,ex]⟩,?_,?_⟩
  ·exact ((HP7.out.setO (by omega)).setO (by omega)).setO (by omega)
  ·exact grown_new (grown_new (grown_new (hg6.trans (pgrown_set _ _ _ _)) (Nat.le_refl _)) (Nat.le_refl _)) (Nat.le_refl _)
 ·have hbW5:Below W.heap.size W w5:=((Below.refl _ _).drew.alloc (Nat.le_refl _) _).trans (hb5.mono (by simp))
  have hs5:=hbW5.size
  obtain ⟨x0,x1,x2,x3,x4,x5,x6⟩:=obj3_of ((hbW5.block w.heap.size y6).trans HZW.out)
  have hne:w.heap.size ≠ W.heap.size:=by omega
  obtain ⟨d0,d1,d2,d3,g2,g3,dl⟩:=(HPW.out.below hbW5 hbl).cells
  have n1:b ≠ w.heap.size:=by omega
  have n2:b ≠ W.heap.size:=by omega
  go_wp2
  refine bodyPost_ret (v:=.tuple #[.agg #[.int .i64 ((a:Int)+1),.int .i64 ((t - (a+1):Nat):Int),.string V],.bool true]) (by simp [results,Tryz.results221,go_sem,x0,x1,x2]) rfl ⟨⟨V,rfl,by rw [hV,ex]⟩,?_,?_⟩
  ·have h7:=((((HPW.out.below hbW5 hbl).setO (i:=0) (v:=.int .i64 ((a:Int)+1)) n2).setO (i:=1) (v:=.int .i64 ((t - (a+1):Nat):Int)) n2).setO (i:=2) (v:=.string V) n2).setA (t+1)
   rw [Int.natCast_add] at h7
   exact ((h7.setO n1).setO n1).setO n1
  ·have hwW:w.heap.size ≤ W.heap.size:=by omega
   have h7:=(grown_new (i:=2) (v:=.string V) (grown_new (i:=1) (v:=.int .i64 ((t - (a+1):Nat):Int)) (grown_new (i:=0) (v:=.int .i64 ((a:Int)+1)) (hgW.trans (pgrown_of hbW5 _)) hwW) hwW) hwW).trans (pgrown_set _ b 2 (.int .i64 ((t:Int)+1)))
   exact grown_new (grown_new (grown_new h7 (Nat.le_refl _)) (Nat.le_refl _)) (Nat.le_refl _)
end Go.Proofs.YtknhacbfddggpaaGreatDoor
namespace Go.Proofs.YtknhacbfddggpaaGreatDoor
open Go.RowKit Go.Proofs.Px
theorem all_u8 (P:UInt8 → Bool) (h:∀ n:Fin 256,P (UInt8.ofNat n.val) = true) (c:UInt8):P c = true:=by
 have:=h ⟨c.toNat,c.toNat_lt⟩
 have e:UInt8.ofNat c.toNat = c:=by simp
 simpa only [e] using this
theorem eq_u8 (p q:UInt8 → Bool) (h:∀ n:Fin 256,(p (UInt8.ofNat n.val) == q (UInt8.ofNat n.val)) = true) (c:UInt8):p c = q c:=beq_iff_eq.1 (all_u8 (fun c=>p c == q c) h c)
def blanksL:List UInt8:=[32,9,13,10]
def bareL:List UInt8:=[32,9,13,10,62]
def attrL:List UInt8:=[32,9,13,10,47,61,62]
def aheadL:List UInt8:=[32,9,13,10,47]
def lettersL:List UInt8:=[97,98,99,100,101,102,103,104,105,106,107,108,109,110,111,112,113,114,115,116,117,118,119,120,121,122]
def alnumL:List UInt8:=lettersL++[48,49,50,51,52,53,54,55,56,57]
theorem bare_c:∀ c,(!bareL.contains (smallC c)) = bareC c:=eq_u8 _ _ (by decide +kernel)
theorem attr_c:∀ c,(!attrL.contains (smallC c)) = attrC c:=eq_u8 _ _ (by decide +kernel)
theorem gap_c:∀ c,blanksL.contains (smallC c) = gapC c:=eq_u8 _ _ (by decide +kernel)
theorem ahead_c:∀ c,aheadL.contains (smallC c) = skipC c:=eq_u8 _ _ (by decide +kernel)
theorem alph_c:∀ c,lettersL.contains (smallC c) = alphC c:=eq_u8 _ _ (by decide +kernel)
theorem alnum_c:∀ c,alnumL.contains (smallC c) = alnumC c:=eq_u8 _ _ (by decide +kernel)
theorem quote_c:∀ c,([34,39]:List UInt8).contains (smallC c) = (c == 34 || c == 39):=eq_u8 _ _ (by decide +kernel)
theorem mark_c:∀ c,([47,33,63]:List UInt8).contains (smallC c) = (c == 47 || (c == 33 || c == 63)):=eq_u8 _ _ (by decide +kernel)
theorem end_c:∀ c,([62]:List UInt8).contains (smallC c) = (c == 62):=eq_u8 _ _ (by decide +kernel)
theorem is_c:∀ c,([61]:List UInt8).contains (smallC c) = (c == 61):=eq_u8 _ _ (by decide +kernel)
theorem q34_c:∀ c,(!([34]:List UInt8).contains (smallC c)) = (c != 34):=eq_u8 _ _ (by decide +kernel)
theorem q39_c:∀ c,(!([39]:List UInt8).contains (smallC c)) = (c != 39):=eq_u8 _ _ (by decide +kernel)
theorem until_small (set:List UInt8) (p:UInt8 → Bool) (hp:∀ c,(!set.contains (smallC c)) = p c) (l:List UInt8) (a:Nat):untilN set (smallS l) a = ((l.drop a).takeWhile p).length:=by
 unfold untilN smallS
 rw [← List.map_drop,List.takeWhile_map,List.length_map]
 congr 2
 funext c
 exact hp c
theorem run_small (set:List UInt8) (p:UInt8 → Bool) (hp:∀ c,set.contains (smallC c) = p c) (l:List UInt8) (a:Nat):runN set (smallS l) a = ((l.drop a).takeWhile p).length:=by
 unfold runN smallS
 rw [← List.map_drop,List.takeWhile_map,List.length_map]
 congr 2
 funext c
 exact hp c
theorem isAt_small (set sm:ByteArray) (p:UInt8 → Bool) (hp:∀ c,set.data.toList.contains (smallC c) = p c) (l:List UInt8) (hs:sm.data.toList = smallS l) (a:Nat):isAtB set sm a = (l.drop a).head?.any p:=by
 unfold isAtB
 rw [hs]
 unfold smallS
 rw [← List.map_drop,List.head?_map,Option.any_map]
 congr 1
 funext c
 exact hp c
end Go.Proofs.YtknhacbfddggpaaGreatDoor
namespace Go.Proofs.YtknhacbfddggpaaGreatDoor
open Go.RowKit Go.Proofs.Px
theorem findL_while (d:UInt8):∀ s:List UInt8,findL [d] s = if s.dropWhile (· != d) = [] then none else some (s.takeWhile (· != d),s.dropWhile (· != d))
 | []=>rfl
 | c :: s=>by
  unfold findL
  by_cases h:c = d
  ·subst h
   simp [List.isPrefixOf]
  ·have h1:(c != d) = true:=by simpa using h
   have h2:([d]:List UInt8).isPrefixOf (c :: s) = false:=by
    simp only [List.isPrefixOf,Bool.and_true,beq_eq_false_iff_ne]
    exact fun e=>h e.symm
   rw [h2,List.dropWhile_cons_of_pos (p:=fun x=>x != d) h1,List.takeWhile_cons_of_pos (p:=fun x=>x != d) h1,findL_while d s]
   by_cases h3:s.dropWhile (· != d) = []
   ·rw [if_pos h3,if_pos h3]; rfl
   ·rw [if_neg h3,if_neg h3]; rfl
def valS:List UInt8 → Option (List UInt8 × Bool)
 | []=>none
 | q :: t=>if q = 34 ∨ q = 39 then (if t.dropWhile (· != q) = [] then none else some (t.takeWhile (· != q),true)) else if (q :: t).dropWhile bareC = [] then none else some ((q :: t).takeWhile bareC,false)
def qn (q:Bool):Nat:=if q then 1 else 0
def ValPost (pg sm:ByteArray) (b a:Nat) (L:Value) (w:World):Option (List UInt8 × Bool) → Ending → World → Prop
 | none,e,w'=>e = .returned (.tuple #[.agg #[.int .i64 0,.int .i64 0,.string ⟨#[]⟩],.bool false])∧PR w' b pg sm pg.size L∧w.grownBy w' (some b)
 | some (v,q),e,w'=>(∃ V:ByteArray,e = .returned (.tuple #[.agg #[.int .i64 ((a+qn q:Nat):Int),.int .i64 (v.length:Int),.string V],.bool true])∧V.data.toList = unescS v)∧PR w' b pg sm (a+v.length+2 * qn q) L∧a+v.length+2 * qn q ≤ pg.size∧w.grownBy w' (some b)
theorem while_lenP {p:UInt8 → Bool} (l:List UInt8):(l.takeWhile p).length+(l.dropWhile p).length = l.length:=by
 rw [← List.length_append,List.takeWhile_append_dropWhile]
theorem take_while {p:UInt8 → Bool} (l:List UInt8):l.take (l.takeWhile p).length = l.takeWhile p:=by
 have e:=List.takeWhile_append_dropWhile (p:=p) (l:=l)
 exact (congrArg (List.take (l.takeWhile p).length) e.symm).trans List.take_left
theorem value_any (b a:Nat) (pg sm:ByteArray) (L:Value) (w:World) (h:PR w b pg sm a L) (hW:Words w) (hgb:4 ≠ b) (hl:pg.size ≤ 100000000) (hsm:sm.data.toList = smallS pg.data.toList) (ha:a ≤ pg.size) :
  Calls Tryz.prog 221 #[.pointer (some ⟨b,0,none⟩)] w (ValPost pg sm b a L w (valS (pg.data.toList.drop a))):=by
 have hs:sm.size = pg.size:=by rw [← size_list,hsm,← size_list]; unfold smallS; simp
 have hq:=isAt_small quotesA sm _ quote_c pg.data.toList hsm a
 have hln:(pg.data.toList.drop a).length = pg.size - a:=by rw [List.length_drop,size_list]
 have hub:untilN bareA.data.toList sm.data.toList a = ((pg.data.toList.drop a).takeWhile bareC).length:=by rw [hsm]; exact until_small bareL bareC bare_c _ a
 have hwl:=while_lenP (p:=bareC) (pg.data.toList.drop a)
 cases hd:pg.data.toList.drop a with
 | nil =>
  rw [hd] at hq hln hub hwl
  simp at hln hub
  refine (value_bare_no b a pg sm L w h hl hs ha hq (by rw [hub]; omega)).mono ?_
  exact fun e w' x=>x
 | cons c t =>
  have hlt:a < pg.size:=by rw [hd] at hln; simp at hln; omega
  by_cases hc:c = 34 ∨ c = 39
  ·have hd1:pg.data.toList.drop (a+1) = t:=by
    have:=congrArg (List.drop 1) hd
    simpa [List.drop_drop] using this
   have hpc:pg[a] = c:=by
    have:=List.drop_eq_getElem_cons (l:=pg.data.toList) (i:=a) (by rw [size_list]; exact hlt)
    rw [hd] at this
    injection this with h1 _
    exact h1.symm
   have hx:(pg.extract a (a+1)).data.toList = [c]:=by
    rw [extract_list,hd]
    simp
   have hcc:∀ d,(!([c]:List UInt8).contains (smallC d)) = (d != c):=by
    rcases hc with rfl | rfl
    ·exact q34_c
    ·exact q39_c
   have hu:untilN (pg.extract a (a+1)).data.toList sm.data.toList (a+1) = (t.takeWhile (· != c)).length:=by
    rw [hx,hsm,until_small [c] (· != c) hcc _ (a+1),hd1]
   have hw2:=while_lenP (p:=(· != c)) t
   have hq1:isAtB quotesA sm a = true:=by
    rw [hq,hd]
    rcases hc with rfl | rfl <;> rfl
   have htl:t.length = pg.size - a - 1:=by rw [hd] at hln; simp at hln; omega
   rw [valS,if_pos hc]
   by_cases he:t.dropWhile (· != c) = []
   ·rw [if_pos he]
    rw [he] at hw2
    simp at hw2
    refine (value_quo_no b a pg sm L w h hl hs hlt hq1 (by rw [hu]; omega)).mono ?_
    exact fun e w' x=>x
   ·rw [if_neg he]
    have hpos:0 < (t.dropWhile (· != c)).length:=List.length_pos_iff.2 he
    refine (value_quo_yes b a (a+1+(t.takeWhile (· != c)).length) pg sm L w h hW hgb hl hs hlt hq1 (by rw [hu]) (by omega) (by omega)).mono ?_
    rintro e w' ⟨⟨V,rfl,hV⟩,hP,hg⟩
    rw [hd1,Nat.add_sub_cancel_left,take_while] at hV
    refine ⟨⟨V,?_,hV⟩,?_,?_,hg⟩
    ·rw [Nat.add_sub_cancel_left]; rfl
    ·have e:a+(t.takeWhile (· != c)).length+2 * qn true = a+1+(t.takeWhile (· != c)).length+1:=by show _+2 * 1 = _; omega
     rw [e]; exact hP
    ·show _+2 * 1 ≤ _
     omega
  ·have hq0:isAtB quotesA sm a = false:=by
    rw [hq,hd]
    simp only [List.head?_cons,Option.any_some,Bool.or_eq_false_iff,beq_eq_false_iff_ne]
    exact ⟨fun e=>hc (.inl e),fun e=>hc (.inr e)⟩
   rw [hd] at hub hwl hln
   simp only [List.length_cons] at hwl hln
   rw [valS,if_neg hc]
   by_cases he:(c :: t).dropWhile bareC = []
   ·rw [if_pos he]
    rw [he] at hwl
    simp at hwl
    refine (value_bare_no b a pg sm L w h hl hs ha hq0 (by rw [hub]; omega)).mono ?_
    exact fun e w' x=>x
   ·rw [if_neg he]
    have hpos:0 < ((c :: t).dropWhile bareC).length:=List.length_pos_iff.2 he
    refine (value_bare_yes b a (a+((c :: t).takeWhile bareC).length) pg sm L w h hW hgb hl hs ha hq0 (by rw [hub]) (by omega) (by omega)).mono ?_
    rintro e w' ⟨⟨V,rfl,hV⟩,hP,hg⟩
    rw [hd,Nat.add_sub_cancel_left,take_while] at hV
    refine ⟨⟨V,?_,hV⟩,hP,?_,hg⟩
    ·rw [Nat.add_sub_cancel_left]; rfl
    ·show _+2 * 0 ≤ _
     omega
end Go.Proofs.YtknhacbfddggpaaGreatDoor
namespace Go.Proofs.YtknhacbfddggpaaGreatDoor
open Go.RowKit Go.Proofs.Px
def attrA:ByteArray:=⟨#[32,9,13,10,47,61,62]⟩
def blanksA:ByteArray:=⟨#[32,9,13,10]⟩
def isA:ByteArray:=⟨#[61]⟩
set_option maxHeartbeats 2000000 in
set_option maxRecDepth 100000 in
theorem attr_plain (b a u g:Nat) (pg sm:ByteArray) (L:Value) (w:World) (h:PR w b pg sm a L) (hl:pg.size ≤ 100000000) (hs:sm.size = pg.size) (ha:a < pg.size) (hu:(a+1)+untilN attrA.data.toList sm.data.toList (a+1) = u) (hg:u+runN blanksA.data.toList sm.data.toList u = g) (hq:isAtB isA sm g = false) :
  Calls Tryz.prog 198 #[.pointer (some ⟨b,0,none⟩)] w fun e w'=>e = .returned (.tuple #[])∧PR w' b pg sm g L∧w.grownBy w' (some b):=by
 obtain ⟨c0,c1,c2,c3,f2,f3,hb⟩:=h.cells
 have HU:=Box.mk hu
 have HG:=Box.mk hg
 have HQ:=Box.mk hq
 have hau:a+1 ≤ u:=by omega
 have HP1:=Box.mk (h.setA (a+1))
 rw [Int.natCast_add] at HP1
 clear hu hg hq h
 go_enter Tryz.func198,Tryz.ntmps198
 go_wp2_with fail
 refine (until_any b (a+1) pg sm attrA L _ HP1.out hl hs ha).mono ?_
 rw [HU.out]
 rintro e w2 ⟨rfl,hP2,hu2,hg2⟩
 have hg02:=(pgrown_set w b 2 (.int .i64 ((a:Int)+1))).trans hg2
 have HP2:=Box.mk hP2
 clear hP2 hg2 HP1 c0 c1 c2 c3 f2 f3
 obtain ⟨d0,d1,d2,d3,g2,g3,hb2⟩:=HP2.out.cells
 have k1:(0:Int) ≤ (a:Int):=by omega
 have k2:(a:Int) ≤ (u:Int):=by omega
 have k3:(u:Int) ≤ (sm.size:Int):=by omega
 go_wp2_with fail
 go_region
 go_wp2_with fail
 have HP3:=Box.mk (HP2.out.below (Below.refl w2.heap.size w2).drew hb2)
 have hg03:=hg02.trans (pgrown_of (Below.refl w2.heap.size w2).drew (some b))
 refine (skip_any b u pg sm blanksA L _ HP3.out hl hs hu2).mono ?_
 rw [HG.out]
 rintro e w4 ⟨rfl,hP4,hu4,hg4⟩
 have hg04:=hg03.trans hg4
 have HP4:=Box.mk hP4
 have hb4:=hP4.cells.2.2.2.2.2.2
 clear hP4 hg4 HP3 HP2 d0 d1 d2 d3 g2 g3
 go_wp2_with fail
 refine (isAt_any b g pg sm isA L _ HP4.out hs hu4).mono ?_
 rw [HQ.out]
 rintro e w5 ⟨rfl,hb5⟩
 go_wp2
 exact bodyPost_ret (v:=.tuple #[]) (by simp [results,Tryz.results198,go_sem]) rfl ⟨rfl,HP4.out.below hb5 hb4,hg04.trans (pgrown_of hb5 _)⟩
end Go.Proofs.YtknhacbfddggpaaGreatDoor
namespace Go.Proofs.YtknhacbfddggpaaGreatDoor
open Go.RowKit Go.Proofs.Px
theorem pgrown_cell {w w':World} {b k i:Nat} {v:Value} (hg:w.grownBy w' (some b)) (hk:k ≠ b) (h:w.cell? ⟨k,i,none⟩ = some v):w'.cell? ⟨k,i,none⟩ = some v:=by
 have e:=hg.block k (World.block_lt_of_cell? w _ h) (by simpa using hk)
 unfold World.cell? at h ⊢
 simp only [e]
 exact h
structure GP (w:World) (b:Nat):Prop where
 words:Words w
 leads:Leads w
 verbs:Verbs w
 mx:PMax w
 n0:4 ≠ b
 n1:8 ≠ b
 n2:5 ≠ b
 n3:2 ≠ b
theorem GP.grown {w w':World} {b:Nat} (h:GP w b) (hg:w.grownBy w' (some b)):GP w' b:=by
 obtain ⟨m,hm⟩:=h.mx
 have W:=h.words
 have E:=h.leads
 have V:=h.verbs
 exact ⟨⟨pgrown_cell hg h.n0 W.c0,pgrown_cell hg h.n0 W.c1,pgrown_cell hg h.n0 W.c2,pgrown_cell hg h.n0 W.c3,pgrown_cell hg h.n0 W.c4,pgrown_cell hg h.n0 W.c5,pgrown_cell hg h.n0 W.c6,pgrown_cell hg h.n0 W.c7,pgrown_cell hg h.n0 W.c8,pgrown_cell hg h.n0 W.c9⟩,
  ⟨pgrown_cell hg h.n1 E.c0,pgrown_cell hg h.n1 E.c1,pgrown_cell hg h.n1 E.c2⟩,
  ⟨pgrown_cell hg h.n2 V.c0,pgrown_cell hg h.n2 V.c1,pgrown_cell hg h.n2 V.c2,pgrown_cell hg h.n2 V.c3⟩,
  ⟨m,pgrown_cell hg h.n3 hm⟩,h.n0,h.n1,h.n2,h.n3⟩
set_option maxHeartbeats 2000000 in
set_option maxRecDepth 100000 in
theorem attr_none (b a u g k:Nat) (pg sm:ByteArray) (L:Value) (w:World) (h:PR w b pg sm a L) (hG:GP w b) (hl:pg.size ≤ 100000000) (hsm:sm.data.toList = smallS pg.data.toList) (ha:a < pg.size) (hu:(a+1)+untilN attrA.data.toList sm.data.toList (a+1) = u) (hg:u+runN blanksA.data.toList sm.data.toList u = g) (hq:isAtB isA sm g = true) (hgl:g < pg.size) (hk:(g+1)+runN blanksA.data.toList sm.data.toList (g+1) = k) (hv:valS (pg.data.toList.drop k) = none) :
  Calls Tryz.prog 198 #[.pointer (some ⟨b,0,none⟩)] w fun e w'=>e = .returned (.tuple #[])∧PR w' b pg sm pg.size L∧w.grownBy w' (some b):=by
 have hs:sm.size = pg.size:=by rw [← size_list,hsm,← size_list]; unfold smallS; simp
 obtain ⟨c0,c1,c2,c3,f2,f3,hb⟩:=h.cells
 have HU:=Box.mk hu
 have HG:=Box.mk hg
 have HQ:=Box.mk hq
 have HK:=Box.mk hk
 have HV:=Box.mk hv
 have HS:=Box.mk hsm
 have HGP:=Box.mk hG
 have hau:a+1 ≤ u:=by omega
 have HP1:=Box.mk (h.setA (a+1))
 rw [Int.natCast_add] at HP1
 clear hu hg hq h hk hv hG hsm
 go_enter Tryz.func198,Tryz.ntmps198
 go_wp2_with fail
 refine (until_any b (a+1) pg sm attrA L _ HP1.out hl hs ha).mono ?_
 rw [HU.out]
 rintro e w2 ⟨rfl,hP2,hu2,hg2⟩
 have hg02:=(pgrown_set w b 2 (.int .i64 ((a:Int)+1))).trans hg2
 have HP2:=Box.mk hP2
 clear hP2 hg2 HP1 c0 c1 c2 c3 f2 f3
 obtain ⟨d0,d1,d2,d3,g2,g3,hb2⟩:=HP2.out.cells
 have k1:(0:Int) ≤ (a:Int):=by omega
 have k2:(a:Int) ≤ (u:Int):=by omega
 have k3:(u:Int) ≤ (sm.size:Int):=by omega
 go_wp2_with fail
 go_region
 go_wp2_with fail
 have HP3:=Box.mk (HP2.out.below (Below.refl w2.heap.size w2).drew hb2)
 have hg03:=hg02.trans (pgrown_of (Below.refl w2.heap.size w2).drew (some b))
 refine (skip_any b u pg sm blanksA L _ HP3.out hl hs hu2).mono ?_
 rw [HG.out]
 rintro e w4 ⟨rfl,hP4,hu4,hg4⟩
 have hg04:=hg03.trans hg4
 have HP4:=Box.mk hP4
 have hb4:=hP4.cells.2.2.2.2.2.2
 clear hP4 hg4 HP3 HP2 d0 d1 d2 d3 g2 g3
 go_wp2_with fail
 refine (isAt_any b g pg sm isA L _ HP4.out hs hu4).mono ?_
 rw [HQ.out]
 rintro e w5 ⟨rfl,hb5⟩
 have HP5:=Box.mk (HP4.out.below hb5 hb4)
 obtain ⟨d0,d1,d2,d3,g2,g3,hb6⟩:=HP5.out.cells
 have HP6:=Box.mk (HP5.out.setA (g+1))
 rw [Int.natCast_add] at HP6
 have hg06:=(hg04.trans (pgrown_of hb5 (some b))).trans (pgrown_set w5 b 2 (.int .i64 ((g:Int)+1)))
 go_wp2_with fail
 refine (skip_any b (g+1) pg sm blanksA L _ HP6.out hl hs hgl).mono ?_
 rw [HK.out]
 rintro e w7 ⟨rfl,hP7,hu7,hg7⟩
 have hg07:=hg06.trans hg7
 have HP7:=Box.mk hP7
 have HG7:=Box.mk (HGP.out.grown hg07)
 clear hP7 hg7 d0 d1 d2 d3 g2 g3 HP4 HP5 HP6
 go_wp2_with fail
 refine (value_any b k pg sm L _ HP7.out HG7.out.words HG7.out.n0 hl HS.out hu7).mono ?_
 rw [HV.out]
 rintro e w8 ⟨rfl,hP8,hg8⟩
 have hg08:=hg07.trans hg8
 go_wp2
 go_end0
 exact ⟨rfl,hP8.below ((Below.refl _ _).alloc (Nat.le_refl _) _) hP8.cells.2.2.2.2.2.2,hg08.trans (pgrown_of ((Below.refl _ _).alloc (Nat.le_refl _) _) _)⟩
end Go.Proofs.YtknhacbfddggpaaGreatDoor
namespace Go.Proofs.YtknhacbfddggpaaGreatDoor
open Go.RowKit Go.Proofs.Px
set_option maxHeartbeats 2000000 in
set_option maxRecDepth 100000 in
theorem attr_pass (b a u g k:Nat) (pg sm:ByteArray) (L:Value) (w:World) (h:PR w b pg sm a L) (hG:GP w b) (hl:pg.size ≤ 100000000) (hsm:sm.data.toList = smallS pg.data.toList) (ha:a < pg.size) (hu:(a+1)+untilN attrA.data.toList sm.data.toList (a+1) = u) (hg:u+runN blanksA.data.toList sm.data.toList u = g) (hq:isAtB isA sm g = true) (hgl:g < pg.size) (hk:(g+1)+runN blanksA.data.toList sm.data.toList (g+1) = k) (v:List UInt8) (q:Bool) (hv:valS (pg.data.toList.drop k) = some (v,q)) (hn:linkNames.contains ((sm.data.toList.drop a).take (u - a)) = false) :
  Calls Tryz.prog 198 #[.pointer (some ⟨b,0,none⟩)] w fun e w'=>e = .returned (.tuple #[])∧PR w' b pg sm (k+v.length+2 * qn q) L∧k+v.length+2 * qn q ≤ pg.size∧w.grownBy w' (some b):=by
 have hs:sm.size = pg.size:=by rw [← size_list,hsm,← size_list]; unfold smallS; simp
 obtain ⟨c0,c1,c2,c3,f2,f3,hb⟩:=h.cells
 have HU:=Box.mk hu
 have HG:=Box.mk hg
 have HQ:=Box.mk hq
 have HK:=Box.mk hk
 have HV:=Box.mk hv
 have HN:Box (linkNames.contains (sm.extract a u).data.toList = false):=⟨by rw [extract_list]; exact hn⟩
 have HS:=Box.mk hsm
 have HGP:=Box.mk hG
 have hau:a+1 ≤ u:=by omega
 have HP1:=Box.mk (h.setA (a+1))
 rw [Int.natCast_add] at HP1
 clear hu hg hq h hk hv hG hsm hn
 go_enter Tryz.func198,Tryz.ntmps198
 go_wp2_with fail
 refine (until_any b (a+1) pg sm attrA L _ HP1.out hl hs ha).mono ?_
 rw [HU.out]
 rintro e w2 ⟨rfl,hP2,hu2,hg2⟩
 have hg02:=(pgrown_set w b 2 (.int .i64 ((a:Int)+1))).trans hg2
 have HP2:=Box.mk hP2
 clear hP2 hg2 HP1 c0 c1 c2 c3 f2 f3
 obtain ⟨d0,d1,d2,d3,g2,g3,hb2⟩:=HP2.out.cells
 have k1:(0:Int) ≤ (a:Int):=by omega
 have k2:(a:Int) ≤ (u:Int):=by omega
 have k3:(u:Int) ≤ (sm.size:Int):=by omega
 go_wp2_with fail
 go_region
 go_wp2_with fail
 have HP3:=Box.mk (HP2.out.below (Below.refl w2.heap.size w2).drew hb2)
 have hg03:=hg02.trans (pgrown_of (Below.refl w2.heap.size w2).drew (some b))
 refine (skip_any b u pg sm blanksA L _ HP3.out hl hs hu2).mono ?_
 rw [HG.out]
 rintro e w4 ⟨rfl,hP4,hu4,hg4⟩
 have hg04:=hg03.trans hg4
 have HP4:=Box.mk hP4
 have hb4:=hP4.cells.2.2.2.2.2.2
 clear hP4 hg4 HP3 HP2 d0 d1 d2 d3 g2 g3
 go_wp2_with fail
 refine (isAt_any b g pg sm isA L _ HP4.out hs hu4).mono ?_
 rw [HQ.out]
 rintro e w5 ⟨rfl,hb5⟩
 have HP5:=Box.mk (HP4.out.below hb5 hb4)
 obtain ⟨d0,d1,d2,d3,g2,g3,hb6⟩:=HP5.out.cells
 have HP6:=Box.mk (HP5.out.setA (g+1))
 rw [Int.natCast_add] at HP6
 have hg06:=(hg04.trans (pgrown_of hb5 (some b))).trans (pgrown_set w5 b 2 (.int .i64 ((g:Int)+1)))
 go_wp2_with fail
 refine (skip_any b (g+1) pg sm blanksA L _ HP6.out hl hs hgl).mono ?_
 rw [HK.out]
 rintro e w7 ⟨rfl,hP7,hu7,hg7⟩
 have hg07:=hg06.trans hg7
 have HP7:=Box.mk hP7
 have HG7:=Box.mk (HGP.out.grown hg07)
 clear hP7 hg7 d0 d1 d2 d3 g2 g3 HP4 HP5 HP6
 go_wp2_with fail
 refine (value_any b k pg sm L _ HP7.out HG7.out.words HG7.out.n0 hl HS.out hu7).mono ?_
 rw [HV.out]
 rintro e w8 ⟨⟨V,rfl,hV⟩,hP8,hle,hg8⟩
 have hg08:=hg07.trans hg8
 have HP8:=Box.mk hP8
 have hb8:=hP8.cells.2.2.2.2.2.2
 have hA:∀ o:Obj,Below w8.heap.size w8 (w8.alloc o):=fun o=>(Below.refl _ _).alloc (Nat.le_refl _) o
 have HL8:Box (∀ o:Obj,Leads (w8.alloc o)):=⟨fun o=>((HG7.out.grown hg8).grown (pgrown_of (hA o) (some b))).leads⟩
 clear hP8 hg8
 go_wp2_with (go_at_call 222; refine (isLeading_any _ _ (HL8.out _)).mono ?_; rw [HN.out]; rintro e w9 ⟨rfl,rfl⟩)
 go_end0
 exact ⟨rfl,HP8.out.below (hA _) hb8,hle,hg08.trans (pgrown_of (hA _) _)⟩
end Go.Proofs.YtknhacbfddggpaaGreatDoor
namespace Go.Proofs.YtknhacbfddggpaaGreatDoor
open Go.RowKit Go.Proofs.Px
abbrev Lk:=Nat × Nat × ByteArray
def lcells (L:List Lk):List Value:=L.flatMap fun l=>[Value.int .i64 (l.1:Int),Value.int .i64 (l.2.1:Int),Value.string l.2.2]
def lk2 (l:Lk):Nat × Nat × List UInt8:=(l.1,l.2.1,l.2.2.data.toList)
theorem lcells_append (L M:List Lk):lcells (L++M) = lcells L++lcells M:=by simp [lcells]
theorem lcells_get (L:List Lk) (k:Nat) (hk:k < L.length):(lcells L)[k * 3]? = some (.int .i64 (L[k].1:Int))∧(lcells L)[k * 3+1]? = some (.int .i64 (L[k].2.1:Int))∧(lcells L)[k * 3+2]? = some (.string L[k].2.2):=by
 induction L generalizing k with
 | nil=>exact absurd hk (by simp)
 | cons f L ih =>
  have e:lcells (f :: L) = Value.int .i64 (f.1:Int) :: Value.int .i64 (f.2.1:Int) :: Value.string f.2.2 :: lcells L:=rfl
  cases k with
  | zero=>rw [e]; exact ⟨rfl,rfl,rfl⟩
  | succ k =>
   have:=ih k (by simpa using hk)
   have e1:(k+1) * 3 = k * 3+1+1+1:=by omega
   rw [e,e1]
   exact this
def OwnL (w:World) (B:Nat) (v:Value) (L:List Lk):Prop:=w.ownsRow B 80 3 v L.length (lcells L)
theorem Tryz.infoLnk:(Tryz.prog.info? 80).map (fun i=>(i.zero,i.size,i.bytes)) = some (some (.agg #[.int .i64 0,.int .i64 0,.string ⟨#[]⟩]),3,32):=by kernel_rfl
theorem OwnL.nil (w:World) (B:Nat):OwnL w B (.slice none 0 0) []:=World.ownsRow_nil _ _ _ _
theorem OwnL.below {w w':World} {B C:Nat} {v:Value} {L:List Lk} (h:OwnL w B v L) (hb:Below C w w') (hC:w.heap.size ≤ C):OwnL w' B v L:=by
 obtain ⟨h1,h2⟩:=h
 refine ⟨h1,?_⟩
 rcases h2 with h2 | ⟨g,cap,cur,a,b,c,d⟩
 ·exact .inl h2
 ·refine .inr ⟨g,cap,cur,a,b,?_,d⟩
  rw [hb.block g ?_]
  ·exact c
  ·have:=(Array.getElem?_eq_some_iff.1 c).1
   omega
theorem OwnL.kept {w w':World} {B b:Nat} {v:Value} {L:List Lk} (h:OwnL w B v L) (hg:w.grownBy w' (some b)) (hb:b < B):OwnL w' B v L:=by
 obtain ⟨h1,h2⟩:=h
 refine ⟨h1,?_⟩
 rcases h2 with h2 | ⟨g,cap,cur,a,hBg,c,d⟩
 ·exact .inl h2
 ·refine .inr ⟨g,cap,cur,a,hBg,?_,d⟩
  rw [hg.block g (Array.getElem?_eq_some_iff.1 c).1 (by simp; omega)]
  exact c
theorem OwnL.mono {w:World} {B B':Nat} {v:Value} {L:List Lk} (h:OwnL w B v L) (hB:B' ≤ B):OwnL w B' v L:=by
 obtain ⟨h1,h2⟩:=h
 refine ⟨h1,?_⟩
 rcases h2 with h2 | ⟨g,cap,cur,a,b,c⟩
 ·exact .inl h2
 ·exact .inr ⟨g,cap,cur,a,Nat.le_trans hB b,c⟩
theorem OwnL.shape {w:World} {B:Nat} {v:Value} {L:List Lk} (h:OwnL w B v L) :
  (v = .slice none 0 0∧L = []) ∨ ∃ g cap,v = .slice (some ⟨g,0,none⟩) L.length cap∧B ≤ g∧g < w.heap.size∧L.length ≤ cap:=by
 rcases h.2 with ⟨a,b⟩ | ⟨g,cap,cur,a,b,c,d,e,_⟩
 ·exact .inl ⟨a,List.eq_nil_of_length_eq_zero b⟩
 ·exact .inr ⟨g,cap,a,b,(Array.getElem?_eq_some_iff.1 c).1,d⟩
theorem OwnL.len {w:World} {B:Nat} {v:Value} {L:List Lk} (h:OwnL w B v L):∃ A cap,v = .slice A L.length cap∧L.length ≤ cap:=by
 rcases h.shape with ⟨rfl,rfl⟩ | ⟨g,cap,rfl,_,_,hc⟩
 ·exact ⟨_,_,rfl,Nat.le_refl _⟩
 ·exact ⟨_,_,rfl,hc⟩
theorem OwnL.cell {w:World} {B g cap n:Nat} {L:List Lk} (h:OwnL w B (.slice (some ⟨g,0,none⟩) n cap) L) (k:Nat) (hk:k < L.length):w.cell? ⟨g,k * 3,none⟩ = some (.int .i64 (L[k].1:Int))∧w.cell? ⟨g,k * 3+1,none⟩ = some (.int .i64 (L[k].2.1:Int))∧w.cell? ⟨g,k * 3+2,none⟩ = some (.string L[k].2.2):=by
 have hn:n = L.length:=by
  rcases h.2 with ⟨a,_⟩ | ⟨g',cap',cur,a,_⟩
  ·cases a
  ·simp only [Value.slice.injEq] at a; exact a.2.1
 subst hn
 have h':w.ownsRow B 80 3 (.slice (some ⟨g,0,none⟩) L.length cap) L.length (lcells L):=h
 have hg:=lcells_get L k hk
 exact ⟨(World.ownsRow.cellAt h' (k * 3) (by omega)).trans hg.1,(World.ownsRow.cellAt h' (k * 3+1) (by omega)).trans hg.2.1,(World.ownsRow.cellAt h' (k * 3+2) (by omega)).trans hg.2.2⟩
theorem wp_appL0 {o:Oper} {a:Act} {K:Act → World → Prop} {Q:Exit → Act → World → Prop} (W w0:World) (s x:Operand) (ho:o.op = .call { callee:=.builtin .append,args:=#[s,x],argTypes:=#[77,77] })
  (B:Nat) (v:Value) (L:List Lk) (hs:a.eval s = v) (hown:OwnL W B v L) (b c:Nat) (f:Lk) (hx:a.eval x = .slice (some ⟨b,0,none⟩) 1 c) (h0:W.cell? ⟨b,0,none⟩ = some (.int .i64 (f.1:Int))) (h1:W.cell? ⟨b,1,none⟩ = some (.int .i64 (f.2.1:Int))) (h2:W.cell? ⟨b,2,none⟩ = some (.string f.2.2)) (hl:L.length+1 ≤ 1000000000) (hB:B ≤ W.heap.size) (hb:Below B w0 W)
  (h:∀ v' w',OwnL w' B v' (L++[f]) → Below B w0 w' → K (a.put o.dst v') w'):o.wp Tryz.prog a W K Q:=by
 obtain ⟨i0,hi,hz0,hz1,hz2⟩:=info_parts Tryz.infoLnk
 refine wp_append_own W s x 77 ho B 80 i0 (.agg #[.int .i64 0,.int .i64 0,.string ⟨#[]⟩]) 3 32 Tryz.underlying77 hi hz0 hz1 hz2 rfl (by decide) v L.length (lcells L) hs hown ⟨b,0,none⟩ 1 c (lcells [f]) hx rfl ?_ ?_ (by unfold maxLen; omega) (by omega) hB ?_
 ·intro j u hj
  have hjl:j < 3:=(List.getElem?_eq_some_iff.1 hj).1
  rw [Addr.add_lit,Nat.zero_add]
  match j,hjl,hj with
  | 0,_,hj=>rw [h0]; exact hj
  | 1,_,hj=>rw [h1]; exact hj
  | 2,_,hj=>rw [h2]; exact hj
 ·intro u hu
  have:u = .int .i64 (f.1:Int) ∨ u = .int .i64 (f.2.1:Int) ∨ u = .string f.2.2:=by simpa [lcells] using hu
  rcases this with rfl | rfl | rfl <;> rfl
 ·intro v' w' h2 h3 _
  refine h v' w' ?_ (hb.grown h3 hB (fun k hk=>(World.ownsRow.lt hown k hk).1))
  unfold OwnL
  rw [List.length_append,lcells_append]
  exact h2
theorem step_appL {ops:Array Oper} {o:Oper} {a:Act} {K:Act → World → Prop} {Q:Exit → Act → World → Prop} {E:Prop} (W w0:World) (hgd:o.guard = none) (s x:Operand) (ho:o.op = .call { callee:=.builtin .append,args:=#[s,x],argTypes:=#[77,77] })
  (B:Nat) (v:Value) (L:List Lk) (hs:a.eval s = v) (hown:OwnL W B v L) (b c:Nat) (f:Lk) (hx:a.eval x = .slice (some ⟨b,0,none⟩) 1 c) (h0:W.cell? ⟨b,0,none⟩ = some (.int .i64 (f.1:Int))) (h1:W.cell? ⟨b,1,none⟩ = some (.int .i64 (f.2.1:Int))) (h2:W.cell? ⟨b,2,none⟩ = some (.string f.2.2)) (hl:L.length+1 ≤ 1000000000) (hB:B ≤ W.heap.size) (hb:Below B w0 W)
  (h:∀ v' w',OwnL w' B v' (L++[f]) → Below B w0 w' → K (a.put o.dst v') w'):if Region.wanted o (yielded ops a.tmps) = true then Oper.wp Tryz.prog o a W K Q else E:=by
 have hw:Region.wanted o (yielded ops a.tmps) = true:=by simp [Region.wanted,hgd]
 rw [if_pos hw]
 exact wp_appL0 W w0 s x ho B v L hs hown b c f hx h0 h1 h2 hl hB hb h
theorem below_of_grown {w w':World} {b:Nat} (hg:w.grownBy w' (some b)) (hb:b ≤ w.heap.size):Below b w w':=by
 exact ⟨hg.os,hg.tape,hg.output,hg.size,fun i hi=>hg.block i (by omega) (by simp; omega)⟩
end Go.Proofs.YtknhacbfddggpaaGreatDoor
