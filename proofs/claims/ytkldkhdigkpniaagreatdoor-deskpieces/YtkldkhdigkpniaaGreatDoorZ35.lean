import Derived.Test.YtkldkhdigkpniaaGreatDoorZ9
import Derived.Test.YtkldkhdigkpniaaGreatDoorZ20
import Derived.Test.YtkldkhdigkpniaaGreatDoorZShelfP
import Derived.Deep.LoopGhost
import Derived.Deep.RegionLaw
import Derived.Deep.RegionHeld3
import Derived.Deep.RegionWith
import Derived.Maps.AppendAt
import Derived.Lib.IndexBytes
set_option maxHeartbeats 100000000
set_option maxRecDepth 100000
open Array renaming getElem?_eq_some_iff → GL
open Nat renaming le_refl → VQ, add_sub_cancel_left → Ws, le_trans → Xu, zero_le → ZV, le_of_lt → ZW
open Bool renaming eq_iff_iff → ZX, or_false → ZY
open List renaming setIfInBounds_toArray → ZZ, set_cons_zero → Z0, set_cons_succ → Z4, getElem_toArray → Z5, getElem_cons_zero → Z6, getElem_cons_succ → Z7, length_drop → Z8, drop_eq_getElem_cons → Z9, length_cons → aaa, drop_of_length_le → aab, length_map → aac, map_drop → aad, take_of_length_le → aae, getElem?_eq_some_iff → aaf, length_append → aag, mem_of_find?_eq_some → aah, head?_drop → aai, takeWhile_cons_of_pos → aaj, contains_cons → aak, contains_nil → aal, drop_drop → aam, takeWhile_map → aan, takeWhile_append_dropWhile → aao, length_pos_iff → aap
open Go.World renaming block_lt_of_cell? → aaq, ownsRow_nil → aar
open Int renaming natCast_add → aas
namespace Go.Proofs.YtkldkhdigkpniaaGreatDoor
open Go.RowKit Go.Proofs.Px Go.Proofs.Tryz
def PR(w:World)(b:Nat)(pg sm:ByteArray)(a:Nat)(L:Value):Prop:=w.heap[b]?=some (.cells #[.string pg,.string sm,.int .i64 (a:Int),L] 136 (0,0))
theorem PR.cells{w:World}{b a:Nat}{pg sm:ByteArray}{L:Value}(h:PR w b pg sm a L):w.cell? ⟨b,0,none⟩=some (.string pg)/\w.cell? ⟨b,1,none⟩=some (.string sm)/\w.cell? ⟨b,2,none⟩=some (.int .i64 (a:Int))/\w.cell? ⟨b,3,none⟩=some L/\w.frozen? ⟨b,2,none⟩=false/\w.frozen? ⟨b,3,none⟩=false/\b<w.heap.size:=by
 have h':w.heap[b]?=_:=h
 refine⟨by simp[World.cell?,h'],by simp[World.cell?,h'],by simp[World.cell?,h'],by simp[World.cell?,h'],by simp[World.frozen?,h'],by simp[World.frozen?,h'],(GL.1 h').1⟩
theorem PR.setA{w:World}{b a:Nat}{pg sm:ByteArray}{L:Value}(h:PR w b pg sm a L)(k:Nat):PR (w.setCell ⟨b,2,none⟩ (.int .i64 (k:Int))) b pg sm k L:=by
 unfold PR
 rw[setCell_eq_setRow w b 2 _ _ _ _ h]
 exact setRow_heap w b _ _ _ _ h
theorem PR.setL{w:World}{b a:Nat}{pg sm:ByteArray}{L:Value}(h:PR w b pg sm a L)(M:Value):PR (w.setCell ⟨b,3,none⟩ M) b pg sm a M:=by
 unfold PR
 rw[setCell_eq_setRow w b 3 _ _ _ _ h]
 exact setRow_heap w b _ _ _ _ h
theorem PR.below{w w':World}{b a C:Nat}{pg sm:ByteArray}{L:Value}(h:PR w b pg sm a L)(hb:Below C w w')(hC:b<C):PR w' b pg sm a L:=(hb.block b hC).trans h
theorem bP(w:World)(b k:Nat)(v:Value):w.grownBy (w.setCell ⟨b,k,none⟩ v) (some b):=
 ⟨rfl,rfl,rfl,by simp,fun k' _ hk=>heap_setCell_other w ⟨b,k,none⟩ k' v (fun e=>hk (by rw[e]))⟩
theorem aL{w w':World}(h:Below w.heap.size w w')(row:Option Nat):w.grownBy w' row:=⟨h.os,h.tape,h.output,h.size,fun i hi _=>h.block i hi⟩
theorem zt(w:World)(row:Option Nat):w.grownBy w row:=⟨rfl,rfl,rfl,VQ _,fun _ _ _=>rfl⟩
theorem gM(b a:Nat)(pg sm:ByteArray)(L:Value)(w:World)(h:PR w b pg sm a L):
  Calls prog 216 #[.pointer (some ⟨b,0,none⟩)] w fun e w'=>e=.returned (.bool (decide (a=pg.size)))/\w'=w.drew:=by
 obtain⟨c0,c1,c2,c3,f2,f3,hb⟩:=h.cells
 clear h
 obtain⟨q,HQ⟩:∃q,Box (((a:Int)==(pg.size:Int))=q):=⟨_,⟨rfl⟩⟩
 go_enter func216,ntmps216
 go_wp2
 go_region
 go_wp2
 go_ret
 exact⟨aN (by rw[ZX];simp;try omega),rfl⟩
def fF(set sm:ByteArray)(a:Nat):Bool:=(sm.data.toList.drop a).head?.any fun c=>set.data.toList.contains c
theorem uQ(l:aa)(c:UInt8):decide (0<=Lib.indexByte l c)=l.contains c:=by
 rcases yB l c with⟨h1,h2⟩|⟨x,y,h1,h2,h3⟩
 ·rw[h1]
  symm
  have:c∉l:=fun h=>h2 c h rfl
  simpa using this
 ·rw[h3,h1]
  simp
theorem YS(set sm:ByteArray)(a:Nat)(h:a<sm.size)(w:World):Calls prog 170 #[.string set,.int .u8 (sm[a].toNat:Int)] w fun e w'=>e=.returned (.int .i64 (Lib.indexByte set.data.toList sm[a]))/\w'=w:=by
 refine(Tryz.strings_IndexByte _ _ w).mono ?_
 rintro e w' ⟨rfl,rfl⟩
 refine⟨?_,rfl⟩
 congr 4
 simp
theorem sZ(set sm:ByteArray)(a:Nat)(h:a<sm.size):fF set sm a=decide (0<=Lib.indexByte set.data.toList sm[a]):=by
 unfold fF
 rw[aai,xU sm a h,uQ]
 rfl
theorem I8(set sm:ByteArray)(a:Nat)(h:sm.size<=a):fF set sm a=false:=by
 unfold fF
 rw[aai,List.getElem?_eq_none (by rw[ae];exact h)]
 rfl
theorem yP{W w':World}{p q r:Addr}{u v x:Value}(h0:W.cell? p=some u)(h1:W.cell? q=some v)(h2:W.cell? r=some x)(hb:Below W.heap.size W w'):w'.cell? p=some u/\w'.cell? q=some v/\w'.cell? r=some x/\Below W.heap.size W w':=
 ⟨(hb.cell (p:=p) (aaq W _ h0)).trans h0,(hb.cell (p:=q) (aaq W _ h1)).trans h1,(hb.cell (p:=r) (aaq W _ h2)).trans h2,hb⟩
theorem cZ(b a:Nat)(pg sm set:ByteArray)(L:Value)(w:World)(h:PR w b pg sm a L)(hs:sm.size=pg.size)(ha:a<=pg.size):
  Calls prog 160 #[.pointer (some ⟨b,0,none⟩),.string set] w fun e w'=>e=.returned (.bool (fF set sm a))/\Below w.heap.size w w':=by
 obtain⟨c0,c1,c2,c3,f2,f3,hb⟩:=h.cells
 have HP:=Box.m h
 clear h
 obtain⟨q,HQ⟩:∃q,Box (fF set sm a=q):=⟨_,⟨rfl⟩⟩
 rw[HQ.o]
 by_cases hlt:a<pg.size
 ·have hd:decide (a=pg.size)=false:=decide_eq_false (by omega)
  have hlt':a<sm.size:=by omega
  have HZ:Box (decide (0<=Lib.indexByte set.data.toList sm[a])=q):=⟨by rw[<-HQ.o,sZ set sm a hlt']⟩
  have HX:=Box.m (YS set sm a hlt')
  obtain⟨z,hz⟩:∃z,Lib.indexByte set.data.toList sm[a]=z:=⟨_,rfl⟩
  rw[hz]at HZ HX
  clear hz HQ
  go_enter func160,ntmps160
  go_wp2_with fail
  go_region_held3 (fun w'=>w'.cell? ⟨b,0,none⟩=some (.string pg)/\w'.cell? ⟨b,1,none⟩=some (.string sm)/\w'.cell? ⟨b,2,none⟩=some (.int .i64 (a:Int))/\Below w.heap.size w w')
   ((go_split_ands;exact yP c0 c1 c2 (by first|exact ag.drew|exact Below.drew (by assumption)|assumption)))
   (first
    | (go_at_call 216;refine(gM b a pg sm L _ (HP.o.below (by first|exact ag.drew|assumption) hb)).mono ?_;rw[hd];rintro e w5 ⟨rfl,rfl⟩)
    | (go_at_call 170;refine(HX.o _).mono ?_;rintro e w6 ⟨rfl,rfl⟩))
  all_goals
   go_wp2
   go_ret
   exact⟨aN HZ.o,by first|assumption|exact Below.drew (by assumption)|exact(ag.drew).drew⟩
 ·have hd:decide (a=pg.size)=true:=decide_eq_true (by omega)
  have HZ:Box (q=false):=⟨by rw[<-HQ.o,I8 set sm a (by omega)]⟩
  clear HQ
  go_enter func160,ntmps160
  go_wp2_with fail
  refine wp_region_held_drew (S:=fun w'=>Below w.heap.size w w') (by kernel_rfl) ag.drew (fun hS=>?_)
  refine wpAnyH_take (i:=0) (v:=_) rfl (by kernel_rfl) (by kernel_rfl) (by kernel_rfl) (fun _ _ _ h=>h) (Or.inl ⟨by rfl,fun _ _=>rfl⟩) hS ?_
  simp only[Act.put,ZZ,Z0,Z4,Z5,Z6]
  refine wpAnyH_ready (rs:=[1]) (by kernel_rfl) (by simp) (AllReadyH.cons rfl (fun K hK=>?_) AllReadyH.nil)
  rw[if_pos (by rfl)]
  go_wp2_with (go_at_call 216;refine(gM b a pg sm L _ (HP.o.below hS hb)).mono ?_;rw[hd];rintro e w5 ⟨rfl,rfl⟩)
  refine hK.out _ _ hS.drew (fun hS=>?_)
  clear hK
  refine wpAnyH_take (i:=2) (v:=_) rfl (by kernel_rfl) (by kernel_rfl) (by kernel_rfl) (fun _ _ _ h=>h) (Or.inl ⟨by rfl,fun _ _=>rfl⟩) hS ?_
  simp only[Act.put,ZZ,Z0,Z4,Z5,Z6,Z7]
  refine wpAnyH_take (i:=3) (v:=_) rfl (by kernel_rfl) (by kernel_rfl) (by kernel_rfl) (fun _ _ _ h=>h) (Or.inl ⟨by rfl,fun _ _=>rfl⟩) hS ?_
  simp only[Act.put,ZZ,Z0,Z4,Z5,Z6,Z7]
  refine wpAnyH_take (i:=4) (v:=undef) rfl (by kernel_rfl) (by kernel_rfl) (by kernel_rfl) (fun _ _ _ h=>h) (Or.inr ⟨by rfl,rfl⟩) hS ?_
  simp only[Act.put,ZZ,Z0,Z4,Z5,Z6,Z7]
  refine wpAnyH_take (i:=5) (v:=undef) rfl (by kernel_rfl) (by kernel_rfl) (by kernel_rfl) (fun _ _ _ h=>h) (Or.inr ⟨by rfl,rfl⟩) hS ?_
  simp only[Act.put,ZZ,Z0,Z4,Z5,Z6,Z7]
  refine wpAnyH_take (i:=6) (v:=undef) rfl (by kernel_rfl) (by kernel_rfl) (by kernel_rfl) (fun _ _ _ h=>h) (Or.inr ⟨by rfl,rfl⟩) hS ?_
  simp only[Act.put,ZZ,Z0,Z4,Z5,Z6,Z7]
  refine wpAnyH_take (i:=7) (v:=undef) rfl (by kernel_rfl) (by kernel_rfl) (by kernel_rfl) (fun _ _ _ h=>h) (Or.inr ⟨by rfl,rfl⟩) hS ?_
  simp only[Act.put,ZZ,Z0,Z4,Z5,Z6,Z7]
  refine wpAnyH_take (i:=8) (v:=undef) rfl (by kernel_rfl) (by kernel_rfl) (by kernel_rfl) (fun _ _ _ h=>h) (Or.inr ⟨by rfl,rfl⟩) hS ?_
  simp only[Act.put,ZZ,Z0,Z4,Z5,Z6,Z7]
  refine wpAnyH_take (i:=9) (v:=undef) rfl (by kernel_rfl) (by kernel_rfl) (by kernel_rfl) (fun _ _ _ h=>h) (Or.inr ⟨by rfl,rfl⟩) hS ?_
  simp only[Act.put,ZZ,Z0,Z4,Z5,Z6,Z7]
  refine wpAnyH_take (i:=10) (v:=undef) rfl (by kernel_rfl) (by kernel_rfl) (by kernel_rfl) (fun _ _ _ h=>h) (Or.inr ⟨by rfl,rfl⟩) hS ?_
  simp only[Act.put,ZZ,Z0,Z4,Z5,Z6,Z7]
  refine wpAnyH_take (i:=11) (v:=undef) rfl (by kernel_rfl) (by kernel_rfl) (by kernel_rfl) (fun _ _ _ h=>h) (Or.inr ⟨by rfl,rfl⟩) hS ?_
  simp only[Act.put,ZZ,Z0,Z4,Z5,Z6,Z7]
  refine wpAnyH_take (i:=12) (v:=undef) rfl (by kernel_rfl) (by kernel_rfl) (by kernel_rfl) (fun _ _ _ h=>h) (Or.inr ⟨by rfl,rfl⟩) hS ?_
  simp only[Act.put,ZZ,Z0,Z4,Z5,Z6,Z7]
  refine wpAnyH_take (i:=13) (v:=undef) rfl (by kernel_rfl) (by kernel_rfl) (by kernel_rfl) (fun _ _ _ h=>h) (Or.inr ⟨by rfl,rfl⟩) hS ?_
  simp only[Act.put,ZZ,Z0,Z4,Z5,Z6,Z7]
  refine wpAnyH_take (i:=14) (v:=undef) rfl (by kernel_rfl) (by kernel_rfl) (by kernel_rfl) (fun _ _ _ h=>h) (Or.inr ⟨by rfl,rfl⟩) hS ?_
  simp only[Act.put,ZZ,Z0,Z4,Z5,Z6,Z7]
  refine wpAnyH_take (i:=15) (v:=undef) rfl (by kernel_rfl) (by kernel_rfl) (by kernel_rfl) (fun _ _ _ h=>h) (Or.inr ⟨by rfl,rfl⟩) hS ?_
  simp only[Act.put,ZZ,Z0,Z4,Z5,Z6,Z7]
  refine wpAnyH_take (i:=16) (v:=_) rfl (by kernel_rfl) (by kernel_rfl) (by kernel_rfl) (fun _ _ _ h=>h) (Or.inl ⟨by rfl,fun _ _=>rfl⟩) hS ?_
  simp only[Act.put,ZZ,Z0,Z4,Z5,Z6,Z7]
  refine wpAnyH_take (i:=17) (v:=_) rfl (by kernel_rfl) (by kernel_rfl) (by kernel_rfl) (fun _ _ _ h=>h) (Or.inl ⟨by rfl,fun _ _=>rfl⟩) hS ?_
  simp only[Act.put,ZZ,Z0,Z4,Z5,Z6,Z7]
  refine wpAnyH_done (by kernel_rfl) ?_ _
  go_wp2
  go_ret
  exact⟨aN HZ.o.symm,hS⟩
def lM(set sm:aa)(a:Nat):Nat:=((sm.drop a).takeWhile fun c=>set.contains c).length
def fT(set sm:aa)(a:Nat):Nat:=((sm.drop a).takeWhile fun c=>!set.contains c).length
theorem JA{p:UInt8->Bool}(sm:ByteArray)(a:Nat)(h:a<sm.size)(hp:p sm[a]=true):((sm.data.toList.drop a).takeWhile p).length=((sm.data.toList.drop (a+1)).takeWhile p).length+1:=by
 rw[Z9 (by rw[ae];exact h)]
 have e:sm.data.toList[a]'(by rw[ae];exact h)=sm[a]:=rfl
 rw[e,aaj hp,aaa]
theorem CG{p:UInt8->Bool}(sm:ByteArray)(a:Nat)(h:∀h:a<sm.size,p sm[a]=false):((sm.data.toList.drop a).takeWhile p).length=0:=by
 by_cases hl:a<sm.size
 ·rw[Z9 (by rw[ae];exact hl)]
  have e:sm.data.toList[a]'(by rw[ae];exact hl)=sm[a]:=rfl
  rw[e,List.takeWhile_cons_of_neg (by rw[h hl];simp)]
  rfl
 ·rw[aab (by rw[ae];omega)]
  rfl
theorem jI(b a:Nat)(pg sm set:ByteArray)(L:Value)(w:World)(h:PR w b pg sm a L)(hl:pg.size<=100000000)(hs:sm.size=pg.size)(ha:a<=pg.size):
  Calls prog 217 #[.pointer (some ⟨b,0,none⟩),.string set] w fun e w'=>e=.returned (.tuple #[])/\PR w' b pg sm (a+lM set.data.toList sm.data.toList a) L/\a+lM set.data.toList sm.data.toList a<=pg.size/\w.grownBy w' (some b):=by
 obtain⟨N,HN⟩:∃N,Box (a+lM set.data.toList sm.data.toList a=N):=⟨_,⟨rfl⟩⟩
 rw[HN.o]
 go_enter func217,ntmps217
 go_wp2
 go_loopg [] (pg.size - a) (fun gf wx=>∃k:Nat,k<=pg.size/\PR wx b pg sm k L/\Box (k+lM set.data.toList sm.data.toList k=N)/\w.grownBy wx (some b)/\pg.size - k<=gf)
 case atStart=>exact⟨a,ha,h,HN,zt _ _,VQ _⟩
 case round=>
  obtain⟨k,hk,hr,HT,hg,hgf⟩:=hrel
  have hblt:=hr.cells.2.2.2.2.2.2
  cases hq:fF set sm k
  ·have HD:Box (k=N):=⟨by
    have e:lM set.data.toList sm.data.toList k=0:=CG sm k (fun h=>by rw[sZ set sm k h,uQ]at hq;exact hq)
    have:=HT.o
    omega⟩
   have HR:=Box.m hr
   have HQ:=Box.m hq
   clear hr HT hq HN h
   go_wp2_with (go_at_call 160;refine(cZ b k pg sm set L _ HR.o hs hk).mono ?_;rw[HQ.o];rintro e w' ⟨rfl,hb'⟩)
   go_end0
   have:=HD.o
   subst this
   exact⟨rfl,HR.o.below hb' hblt,hk,hg.trans (aL hb' _)⟩
  ·have hlt:k<sm.size:=by
    rcases Nat.lt_or_ge k sm.size with h|h
    ·exact h
    ·rw[I8 set sm k h]at hq;cases hq
   have HT':Box ((k+1)+lM set.data.toList sm.data.toList (k+1)=N):=⟨by
    have e:lM set.data.toList sm.data.toList k=lM set.data.toList sm.data.toList (k+1)+1:=JA sm k hlt (by rw[sZ set sm k hlt,uQ]at hq;exact hq)
    have:=HT.o
    omega⟩
   have HR:=Box.m hr
   have HQ:=Box.m hq
   clear hr HT hq HN h
   go_wp2_with (go_at_call 160;refine(cZ b k pg sm set L _ HR.o hs hk).mono ?_;rw[HQ.o];rintro e w' ⟨rfl,hb'⟩;obtain⟨c0,c1,c2,c3,f2,f3,hb2⟩:=(HR.o.below hb' hblt).cells)
   go_roundg (pg.size - k - 1)
   case measure=>omega
   case rel=>exact⟨k+1,by omega,by first|exact(HR.o.below hb' hblt).setA (k+1)|(have:=(HR.o.below hb' hblt).setA (k+1);rw[aas]at this;exact this),HT',(hg.trans (aL hb' _)).trans (bP _ _ _ _),by omega⟩
theorem j5(b a:Nat)(pg sm set:ByteArray)(L:Value)(w:World)(h:PR w b pg sm a L)(hl:pg.size<=100000000)(hs:sm.size=pg.size)(ha:a<=pg.size):
  Calls prog 251 #[.pointer (some ⟨b,0,none⟩),.string set] w fun e w'=>e=.returned (.tuple #[])/\PR w' b pg sm (a+fT set.data.toList sm.data.toList a) L/\a+fT set.data.toList sm.data.toList a<=pg.size/\w.grownBy w' (some b):=by
 obtain⟨N,HN⟩:∃N,Box (a+fT set.data.toList sm.data.toList a=N):=⟨_,⟨rfl⟩⟩
 rw[HN.o]
 go_enter func251,ntmps251
 go_wp2
 go_loopg [] (pg.size - a) (fun gf wx=>∃k:Nat,k<=pg.size/\PR wx b pg sm k L/\Box (k+fT set.data.toList sm.data.toList k=N)/\w.grownBy wx (some b)/\pg.size - k<=gf)
 case atStart=>exact⟨a,ha,h,HN,zt _ _,VQ _⟩
 case round=>
  obtain⟨k,hk,hr,HT,hg,hgf⟩:=hrel
  have hblt:=hr.cells.2.2.2.2.2.2
  clear HN h
  by_cases hlt:k<pg.size
  ·have hd:decide (k=pg.size)=false:=decide_eq_false (by omega)
   have hlt':k<sm.size:=by omega
   have hdr:Below wr.heap.size wr wr.drew:=ag.drew
   cases hq:fF set sm k
   ·have HT':Box ((k+1)+fT set.data.toList sm.data.toList (k+1)=N):=⟨by
     have e:fT set.data.toList sm.data.toList k=fT set.data.toList sm.data.toList (k+1)+1:=JA sm k hlt' (by rw[sZ set sm k hlt',uQ]at hq;rw[hq];rfl)
     have:=HT.o
     omega⟩
    have HR:=Box.m hr
    have HQ:=Box.m hq
    clear hr HT hq
    go_wp2_with (first
     | (go_at_call 216;refine(gM b k pg sm L _ HR.o).mono ?_;rw[hd];rintro e w' ⟨rfl,rfl⟩)
     | (go_at_call 160;refine(cZ b k pg sm set L _ (HR.o.below hdr hblt) hs hk).mono ?_;rw[HQ.o];rintro e w' ⟨rfl,hb'⟩;obtain⟨c0,c1,c2,c3,f2,f3,hb2⟩:=((HR.o.below hdr hblt).below hb' (Nat.lt_of_lt_of_le hblt hdr.size)).cells))
    have hb3:=hdr.trans (hb'.mono hdr.size)
    go_roundg (pg.size - k - 1)
    case measure=>omega
    case rel=>exact⟨k+1,by omega,by first|exact(HR.o.below hb3 hblt).setA (k+1)|(have:=(HR.o.below hb3 hblt).setA (k+1);rw[aas]at this;exact this),HT',(hg.trans (aL hb3 _)).trans (bP _ _ _ _),by omega⟩
   ·have HD:Box (k=N):=⟨by
     have e:fT set.data.toList sm.data.toList k=0:=CG sm k (fun h=>by rw[sZ set sm k h,uQ]at hq;rw[hq];rfl)
     have:=HT.o
     omega⟩
    have HR:=Box.m hr
    have HQ:=Box.m hq
    clear hr HT hq
    go_wp2_with (first
     | (go_at_call 216;refine(gM b k pg sm L _ HR.o).mono ?_;rw[hd];rintro e w' ⟨rfl,rfl⟩)
     | (go_at_call 160;refine(cZ b k pg sm set L _ (HR.o.below hdr hblt) hs hk).mono ?_;rw[HQ.o];rintro e w' ⟨rfl,hb'⟩))
    have hb3:=hdr.trans (hb'.mono hdr.size)
    go_end0
    have:=HD.o
    subst this
    exact⟨rfl,HR.o.below hb3 hblt,hk,hg.trans (aL hb3 _)⟩
  ·have hd:decide (k=pg.size)=true:=decide_eq_true (by omega)
   have HD:Box (k=N):=⟨by
    have e:fT set.data.toList sm.data.toList k=0:=CG sm k (fun h=>absurd h (by omega))
    have:=HT.o
    omega⟩
   have HR:=Box.m hr
   have hdr:Below wr.heap.size wr wr.drew:=ag.drew
   clear hr HT
   go_wp2_with (go_at_call 216;refine(gM b k pg sm L _ HR.o).mono ?_;rw[hd];rintro e w' ⟨rfl,rfl⟩)
   go_end0
   have:=HD.o
   subst this
   exact⟨rfl,HR.o.below hdr hblt,hk,hg.trans (aL hdr _)⟩
def Zu(w:World):Prop:=∃m,w.cell? ⟨0,0,none⟩=some (.int .i64 m)
def l9(text sm:aa)(n a:Nat):Nat:=if 0<=Lib.index (sm.drop a) text then a+(Lib.index (sm.drop a) text).toNat else n
theorem sI(b a:Nat)(pg sm text:ByteArray)(L:Value)(w:World)(h:PR w b pg sm a L)(hl:pg.size<=100000000)(hs:sm.size=pg.size)(ha:a<=pg.size)(hm:Zu w):
  Calls prog 94 #[.pointer (some ⟨b,0,none⟩),.string text] w fun e w'=>e=.returned (.bool (decide (0<=Lib.index (sm.data.toList.drop a) text.data.toList)))/\PR w' b pg sm (l9 text.data.toList sm.data.toList pg.size a) L/\w.grownBy w' (some b):=by
 obtain⟨c0,c1,c2,c3,f2,f3,hb⟩:=h.cells
 obtain⟨m,hm⟩:=hm
 have HP:=Box.m h
 clear h
 have ex:(sm.extract a pg.size).data.toList=sm.data.toList.drop a:=by
  rw[<-hs,aB,aae (by rw[Z8,ae];exact VQ _)]
 have h0:(0:Int)<=(a:Int):=by omega
 have h1:(a:Int)<=(sm.size:Int):=by omega
 obtain⟨z,HZ⟩:∃z,Box (Lib.index (sm.data.toList.drop a) text.data.toList=z):=⟨_,⟨rfl⟩⟩
 have hzl:z<=(sm.size:Int) - a/\-1<=z:=by
  rw[<-HZ.o]
  have:=Lib.index_le (sm.data.toList.drop a) text.data.toList
  rw[Z8,ae]at this
  exact⟨by omega,Lib.index_ge _ _⟩
 unfold l9
 rw[HZ.o]
 have HQ:=Box.m (HP.o.below (Below.refl w.heap.size w).drew hb)
 have hg:=aL (Below.refl w.heap.size w).drew (some b)
 by_cases hz:z<0
 ·have hz':¬0<=z:=by omega
  rw[if_neg hz',decide_eq_false hz']
  have HS:=Box.m (HQ.o.setA pg.size)
  go_enter func94,ntmps94
  go_wp2_with fail
  go_region_held3 (fun w'=>w'.cell? ⟨b,1,none⟩=some (.string sm)/\w'.cell? ⟨b,2,none⟩=some (.int .i64 (a:Int))/\w'.cell? ⟨0,0,none⟩=some (.int .i64 m)/\Below w.heap.size w w')
   ((go_split_ands;exact yP c1 c2 hm (by first|exact ag.drew|assumption)))
   (first
    | (go_at_call 158;refine(Tryz.strings_Index _ _ m _ (by simp;omega) (by first|assumption|(go_split_ands;assumption))).mono ?_;rw[ex,HZ.o];rintro e w5 ⟨rfl,rfl⟩))
  obtain⟨d0,d1,d2,d3,g2,g3,hb2⟩:=(HP.o.below (Below.refl w.heap.size w).drew hb).cells
  go_wp2
  go_ret
  exact⟨rfl,HS.o,hg.trans (bP _ _ _ _)⟩
 ·have hz':0<=z:=by omega
  rw[if_pos hz',decide_eq_true hz']
  obtain⟨k,rfl⟩:∃k:Nat,z=(k:Int):=⟨z.toNat,by omega⟩
  rw[show((k:Int).toNat)=k from rfl]
  have HS:=Box.m (HQ.o.setA (a+k))
  rw[aas]at HS
  go_enter func94,ntmps94
  go_wp2_with fail
  go_region_held3 (fun w'=>w'.cell? ⟨b,1,none⟩=some (.string sm)/\w'.cell? ⟨b,2,none⟩=some (.int .i64 (a:Int))/\w'.cell? ⟨0,0,none⟩=some (.int .i64 m)/\Below w.heap.size w w')
   ((go_split_ands;exact yP c1 c2 hm (by first|exact ag.drew|assumption)))
   (first
    | (go_at_call 158;refine(Tryz.strings_Index _ _ m _ (by simp;omega) (by first|assumption|(go_split_ands;assumption))).mono ?_;rw[ex,HZ.o];rintro e w5 ⟨rfl,rfl⟩))
  obtain⟨d0,d1,d2,d3,g2,g3,hb2⟩:=(HP.o.below (Below.refl w.heap.size w).drew hb).cells
  go_wp2
  go_ret
  exact⟨rfl,HS.o,hg.trans (bP _ _ _ _)⟩
theorem WP(text sm:aa)(n a:Nat)(hs:sm.length=n)(ha:a<=n):l9 text sm n a<=n:=by
 unfold l9
 split
 ·have:=Lib.index_le (sm.drop a) text
  rw[Z8]at this
  omega
 ·exact VQ _
def bgA:ByteArray:=⟨#[98,97,99,107,103,114,111,117,110,100]⟩
def hrA:ByteArray:=⟨#[104,114,101,102]⟩
def srA:ByteArray:=⟨#[115,114,99]⟩
def scA:ByteArray:=⟨#[115,99,114,105,112,116]⟩
def stA:ByteArray:=⟨#[115,116,121,108,101]⟩
def txA:ByteArray:=⟨#[116,101,120,116,97,114,101,97]⟩
def tiA:ByteArray:=⟨#[116,105,116,108,101]⟩
theorem Ml(n s:ByteArray):(n.toList==s.toList)=(n.data.toList==s.data.toList):=by rw[ByteArray.toList_eq,ByteArray.toList_eq]
theorem CF(x y:aa):(x==y)=(y==x):=by rw[ZX,beq_iff_eq,beq_iff_eq];exact eq_comm
structure Fy(w:World):Prop where
 c0:w.cell? ⟨11,0,none⟩=some (.string bgA)
 c1:w.cell? ⟨11,1,none⟩=some (.string hrA)
 c2:w.cell? ⟨11,2,none⟩=some (.string srA)
theorem Yg(a b c:Value):∀w:World,(Instr.index 296 (.agg #[a,b,c]) (.int .i64 0)).run prog w=.ok a w:=fun w=>by kernel_rfl
theorem YL(a b c:Value):∀w:World,(Instr.index 296 (.agg #[a,b,c]) (.int .i64 1)).run prog w=.ok b w:=fun w=>by kernel_rfl
theorem Yk(a b c:Value):∀w:World,(Instr.index 296 (.agg #[a,b,c]) (.int .i64 2)).run prog w=.ok c w:=fun w=>by kernel_rfl
theorem vJ(s:ByteArray)(w:World)(h:Fy w):
  Calls prog 253 #[.string s] w fun e w'=>e=.returned (.bool (bZ.contains s.data.toList))/\w'=w:=by
 obtain⟨c0,c1,c2⟩:=h
 obtain⟨q,HQ⟩:∃q,Box (bZ.contains s.data.toList=q):=⟨_,⟨rfl⟩⟩
 rw[HQ.o]
 have i0:=Yg (.string bgA) (.string hrA) (.string srA)
 have i1:=YL (.string bgA) (.string hrA) (.string srA)
 have i2:=Yk (.string bgA) (.string hrA) (.string srA)
 obtain⟨q0,hq0⟩:∃q0,(bgA.toList==s.toList)=q0:=⟨_,rfl⟩
 obtain⟨q1,hq1⟩:∃q1,(hrA.toList==s.toList)=q1:=⟨_,rfl⟩
 obtain⟨q2,hq2⟩:∃q2,(srA.toList==s.toList)=q2:=⟨_,rfl⟩
 have HE:Box (q=(q2||(q1||q0))):=⟨by
  rw[<-HQ.o,<-hq0,<-hq1,<-hq2,Ml,Ml,Ml,CF bgA.data.toList,CF hrA.data.toList,CF srA.data.toList]
  simp only[bZ,aak,aal,ZY]
  rfl⟩
 clear HQ
 go_enter func253,ntmps253
 go_wp2
 go_loop [6] (fun i=>∃k:Nat,k<=3/\i=.int .i64 k/\Box ((0<k->q0=false)/\(1<k->q1=false)/\(2<k->q2=false))) (fun i=>3 - (intOf i).toNat)
 case atStart=>exact⟨0,by omega,rfl,⟨fun h=>absurd h (by omega),fun h=>absurd h (by omega),fun h=>absurd h (by omega)⟩⟩
 case round=>
  obtain⟨k,hk,rfl,HA⟩:=hrel
  obtain rfl|rfl|rfl|rfl:k=0\/k=1\/k=2\/k=3:=by omega
  ·cases q0
   ·go_wp2
    go_round
    case rel=>exact⟨1,by omega,by go_num,⟨fun _=>by first|rfl|trivial,fun h=>absurd h (by omega),fun h=>absurd h (by omega)⟩⟩
    case measure=>simp[intOf]
   ·go_wp2
    go_ret
    exact⟨aN (by rw[HE.o];simp),rfl⟩
  ·have h0:=HA.o.1 (by omega)
   cases q1
   ·go_wp2
    go_round
    case rel=>exact⟨2,by omega,by go_num,⟨fun _=>h0,fun _=>by first|rfl|trivial,fun h=>absurd h (by omega)⟩⟩
    case measure=>simp[intOf]
   ·go_wp2
    go_ret
    exact⟨aN (by rw[HE.o];simp),rfl⟩
  ·have h0:=HA.o.1 (by omega)
   have h1:=HA.o.2.1 (by omega)
   cases q2
   ·go_wp2
    go_round
    case rel=>exact⟨3,by omega,by go_num,⟨fun _=>h0,fun _=>h1,fun _=>by first|rfl|trivial⟩⟩
    case measure=>simp[intOf]
   ·go_wp2
    go_ret
    exact⟨aN (by rw[HE.o];simp),rfl⟩
  ·have HF:Box (q=false):=⟨by rw[HE.o,HA.o.1 (by omega),HA.o.2.1 (by omega),HA.o.2.2 (by omega)];rfl⟩
   go_wp2
   go_ret
   exact⟨aN HF.o.symm,rfl⟩
structure Oj(w:World):Prop where
 c0:w.cell? ⟨6,0,none⟩=some (.string scA)
 c1:w.cell? ⟨6,1,none⟩=some (.string stA)
 c2:w.cell? ⟨6,2,none⟩=some (.string txA)
 c3:w.cell? ⟨6,3,none⟩=some (.string tiA)
theorem YF(a b c d:Value):∀w:World,(Instr.index 274 (.agg #[a,b,c,d]) (.int .i64 0)).run prog w=.ok a w:=fun w=>by kernel_rfl
theorem Yi(a b c d:Value):∀w:World,(Instr.index 274 (.agg #[a,b,c,d]) (.int .i64 1)).run prog w=.ok b w:=fun w=>by kernel_rfl
theorem YC(a b c d:Value):∀w:World,(Instr.index 274 (.agg #[a,b,c,d]) (.int .i64 2)).run prog w=.ok c w:=fun w=>by kernel_rfl
theorem Y6(a b c d:Value):∀w:World,(Instr.index 274 (.agg #[a,b,c,d]) (.int .i64 3)).run prog w=.ok d w:=fun w=>by kernel_rfl
theorem uk(s:ByteArray)(w:World)(h:Oj w):
  Calls prog 219 #[.string s] w fun e w'=>e=.returned (.bool (eu.contains s.data.toList))/\w'=w:=by
 obtain⟨c0,c1,c2,c3⟩:=h
 obtain⟨q,HQ⟩:∃q,Box (eu.contains s.data.toList=q):=⟨_,⟨rfl⟩⟩
 rw[HQ.o]
 have i0:=YF (.string scA) (.string stA) (.string txA) (.string tiA)
 have i1:=Yi (.string scA) (.string stA) (.string txA) (.string tiA)
 have i2:=YC (.string scA) (.string stA) (.string txA) (.string tiA)
 have i3:=Y6 (.string scA) (.string stA) (.string txA) (.string tiA)
 obtain⟨q0,hq0⟩:∃q0,(scA.toList==s.toList)=q0:=⟨_,rfl⟩
 obtain⟨q1,hq1⟩:∃q1,(stA.toList==s.toList)=q1:=⟨_,rfl⟩
 obtain⟨q2,hq2⟩:∃q2,(txA.toList==s.toList)=q2:=⟨_,rfl⟩
 obtain⟨q3,hq3⟩:∃q3,(tiA.toList==s.toList)=q3:=⟨_,rfl⟩
 have HE:Box (q=(q0||(q1||(q2||q3)))):=⟨by
  rw[<-HQ.o,<-hq0,<-hq1,<-hq2,<-hq3,Ml,Ml,Ml,Ml,CF scA.data.toList,CF stA.data.toList,CF txA.data.toList,CF tiA.data.toList]
  simp only[eu,aak,aal,ZY]
  rfl⟩
 clear HQ
 go_enter func219,ntmps219
 go_wp2
 go_loop [6] (fun i=>∃k:Nat,k<=4/\i=.int .i64 k/\Box ((0<k->q0=false)/\(1<k->q1=false)/\(2<k->q2=false)/\(3<k->q3=false))) (fun i=>4 - (intOf i).toNat)
 case atStart=>exact⟨0,by omega,rfl,⟨fun h=>absurd h (by omega),fun h=>absurd h (by omega),fun h=>absurd h (by omega),fun h=>absurd h (by omega)⟩⟩
 case round=>
  obtain⟨k,hk,rfl,HA⟩:=hrel
  obtain rfl|rfl|rfl|rfl|rfl:k=0\/k=1\/k=2\/k=3\/k=4:=by omega
  ·cases q0
   ·go_wp2
    go_round
    case rel=>exact⟨1,by omega,by go_num,⟨fun _=>by first|rfl|trivial,fun h=>absurd h (by omega),fun h=>absurd h (by omega),fun h=>absurd h (by omega)⟩⟩
    case measure=>simp[intOf]
   ·go_wp2
    go_ret
    exact⟨aN (by rw[HE.o];simp),rfl⟩
  ·have h0:=HA.o.1 (by omega)
   cases q1
   ·go_wp2
    go_round
    case rel=>exact⟨2,by omega,by go_num,⟨fun _=>h0,fun _=>by first|rfl|trivial,fun h=>absurd h (by omega),fun h=>absurd h (by omega)⟩⟩
    case measure=>simp[intOf]
   ·go_wp2
    go_ret
    exact⟨aN (by rw[HE.o];simp),rfl⟩
  ·have h0:=HA.o.1 (by omega)
   have h1:=HA.o.2.1 (by omega)
   cases q2
   ·go_wp2
    go_round
    case rel=>exact⟨3,by omega,by go_num,⟨fun _=>h0,fun _=>h1,fun _=>by first|rfl|trivial,fun h=>absurd h (by omega)⟩⟩
    case measure=>simp[intOf]
   ·go_wp2
    go_ret
    exact⟨aN (by rw[HE.o];simp),rfl⟩
  ·have h0:=HA.o.1 (by omega)
   have h1:=HA.o.2.1 (by omega)
   have h2:=HA.o.2.2.1 (by omega)
   cases q3
   ·go_wp2
    go_round
    case rel=>exact⟨4,by omega,by go_num,⟨fun _=>h0,fun _=>h1,fun _=>h2,fun _=>by first|rfl|trivial⟩⟩
    case measure=>simp[intOf]
   ·go_wp2
    go_ret
    exact⟨aN (by rw[HE.o];simp),rfl⟩
  ·have HF:Box (q=false):=⟨by rw[HE.o,HA.o.1 (by omega),HA.o.2.1 (by omega),HA.o.2.2.1 (by omega),HA.o.2.2.2 (by omega)];rfl⟩
   go_wp2
   go_ret
   exact⟨aN HF.o.symm,rfl⟩
def XF:ByteArray:=⟨#[38,97,109,112,59]⟩
def OY:ByteArray:=⟨#[38,113,117,111,116,59]⟩
def O4:ByteArray:=⟨#[38,35,51,57,59]⟩
def ltA:ByteArray:=⟨#[38,108,116,59]⟩
def gtA:ByteArray:=⟨#[38,103,116,59]⟩
def fQ:List (UInt8×ByteArray):=[(38,XF),(34,OY),(39,O4),(60,ltA),(62,gtA)]
structure kg(w:World):Prop where
 c0:w.cell? ⟨12,0,none⟩=some (.int .u8 38)
 c1:w.cell? ⟨12,1,none⟩=some (.string XF)
 c2:w.cell? ⟨12,2,none⟩=some (.int .u8 34)
 c3:w.cell? ⟨12,3,none⟩=some (.string OY)
 c4:w.cell? ⟨12,4,none⟩=some (.int .u8 39)
 c5:w.cell? ⟨12,5,none⟩=some (.string O4)
 c6:w.cell? ⟨12,6,none⟩=some (.int .u8 60)
 c7:w.cell? ⟨12,7,none⟩=some (.string ltA)
 c8:w.cell? ⟨12,8,none⟩=some (.int .u8 62)
 c9:w.cell? ⟨12,9,none⟩=some (.string gtA)
theorem Zr(k:Nat)(h:k<5):∃x,fQ[k]?=some x/\∀w:World,(Instr.index 301 (.agg #[.int .u8 38,.string XF,.int .u8 34,.string OY,.int .u8 39,.string O4,.int .u8 60,.string ltA,.int .u8 62,.string gtA]) (.int .i64 (k:Int))).run prog w=.ok (.agg #[.int .u8 (x.1.toNat:Int),.string x.2]) w:=by
 obtain rfl|rfl|rfl|rfl|rfl:k=0\/k=1\/k=2\/k=3\/k=4:=by omega
 ·exact⟨_,rfl,fun w=>by kernel_rfl⟩
 ·exact⟨_,rfl,fun w=>by kernel_rfl⟩
 ·exact⟨_,rfl,fun w=>by kernel_rfl⟩
 ·exact⟨_,rfl,fun w=>by kernel_rfl⟩
 ·exact⟨_,rfl,fun w=>by kernel_rfl⟩
def Fe:Option (UInt8×ByteArray)->Value
 | some x=>.tuple #[.agg #[.int .u8 (x.1.toNat:Int),.string x.2],.bool true]
 | none=>.tuple #[.agg #[.int .u8 0,.string ⟨#[]⟩],.bool false]
theorem xY{p:UInt8×ByteArray->Bool}(k:Nat)(x:UInt8×ByteArray)(h:fQ[k]?=some x)(hp:p x=false):(fQ.drop k).find? p=(fQ.drop (k+1)).find? p:=by
 obtain⟨hk,e⟩:=aaf.1 h
 rw[Z9 hk,e,List.find?_cons_of_neg (by rw[hp];simp)]
theorem vL{p:UInt8×ByteArray->Bool}(k:Nat)(x:UInt8×ByteArray)(h:fQ[k]?=some x)(hp:p x=true):(fQ.drop k).find? p=some x:=by
 obtain⟨hk,e⟩:=aaf.1 h
 rw[Z9 hk,e,List.find?_cons_of_pos hp]
theorem bF(w:World)(o:Obj):(w.alloc o).heap[w.heap.size]?=some o:=by
 have e:(w.alloc o).heap=w.heap.push o:=rfl
 rw[e]
 simp
theorem oW{w:World}{b:Nat}{u v:Value}{T:TypeId}(h:w.heap[b]?=some (.cells #[u,v] T (0,0))):w.cell? ⟨b,0,none⟩=some u/\w.cell? ⟨b,1,none⟩=some v/\w.frozen? ⟨b,0,none⟩=false/\w.frozen? ⟨b,1,none⟩=false/\b<w.heap.size:=
 ⟨by simp[World.cell?,h],by simp[World.cell?,h],by simp[World.frozen?,h],by simp[World.frozen?,h],(GL.1 h).1⟩
theorem Wy(x1 x2:Value)(p:UInt8×ByteArray->Bool)(w:World)(hW:kg w)
  (hc:∀(x:UInt8×ByteArray) (w1:World),Below w.heap.size w w1->Calls prog 260 #[.agg #[.int .u8 (x.1.toNat:Int),.string x.2],x1,x2] w1 fun e w2=>e=.returned (.bool (p x))/\Below w1.heap.size w1 w2) :
  Calls prog 259 #[.func (.func 260) #[] #[x1,x2]] w fun e w'=>e=.returned (Fe (fQ.find? p))/\Below w.heap.size w w':=by
 obtain⟨c0,c1,c2,c3,c4,c5,c6,c7,c8,c9⟩:=hW
 obtain⟨F,HF⟩:∃F,Box (fQ.find? p=F):=⟨_,⟨rfl⟩⟩
 rw[HF.o]
 have hlt:=aaq w _ c0
 have HC:=Box.m hc
 clear hc
 go_enter func259,ntmps259
 go_wp2
 clear c0 c1 c2 c3 c4 c5 c6 c7 c8 c9
 go_loopg [7] 5 (fun gf i wx=>∃k:Nat,k<=5/\i=.int .i64 k/\Box ((fQ.drop k).find? p=F)/\Below (w.heap.size+1) (w.alloc (.cells #[.int .u8 0,.string ⟨#[]⟩] 284)) wx/\5 - k<=gf)
 case atStart=>exact⟨0,by omega,rfl,HF,Below.refl _ _,by omega⟩
 case round=>
  obtain⟨k,hk,rfl,HT,hb,hgf⟩:=hrel
  clear HF
  have hbw:Below w.heap.size w wr:=(ag.alloc af _).trans (hb.mono (by omega))
  have hsz:w.heap.size+1<=wr.heap.size:=by have:=hb.size;simpa using this
  have HB0:=Box.m ((hb.block w.heap.size (by omega)).trans (bF w _))
  by_cases hk5:k<5
  ·obtain⟨x,hx,ix⟩:=Zr k hk5
   have HX:=Box.m hx
   clear hx
   have hbA:Below w.heap.size w (wr.alloc (.cells #[.int .u8 (x.1.toNat:Int),.string x.2] 284)):=hbw.alloc (by omega) _
   have HCL:=Box.m (HC.o x _ hbA)
   cases hq:p x
   ·have HT':Box ((fQ.drop (k+1)).find? p=F):=⟨by rw[<-HT.o,xY k x HX.o hq]⟩
    rw[hq]at HCL
    clear HT HX HC hq
    go_wp2_with fail
    refine HCL.o.mono ?_
    rintro e w2 ⟨rfl,hb2⟩
    clear HCL
    go_wp2
    go_roundg (5 - (k+1))
    case measure=>omega
    case rel=>exact⟨k+1,by omega,by go_num,HT',(hb.alloc (by omega) _).trans (hb2.mono (by simp;omega)),by omega⟩
   ·have HT':Box (F=some x):=⟨by rw[<-HT.o,vL k x HX.o hq]⟩
    rw[hq]at HCL
    clear HT HX HC hq
    go_wp2_with fail
    refine HCL.o.mono ?_
    rintro e w2 ⟨rfl,hb2⟩
    clear HCL
    obtain⟨y0,y1,y2,y3,y4⟩:=oW ((hb2.block w.heap.size (by simp;omega)).trans ((Below.heap_alloc wr _ _ (by omega)).trans HB0.o))
    obtain⟨z0,z1,z2,z3,z4⟩:=oW ((hb2.block wr.heap.size (by simp)).trans (bF wr _))
    have hbE:Below w.heap.size w w2:=hbA.trans (hb2.mono (by simp;omega))
    go_wp2
    have:=HT'.o
    subst this
    refine bodyPost_ret (v:=.tuple #[.agg #[.int .u8 (x.1.toNat:Int),.string x.2],.bool true]) (by simp[results,results259,go_sem,y0,y1]) rfl ⟨rfl,?_⟩
    iterate 2 (refine Below.setCell ?_ (by simp) _)
    exact hbE
  ·have HT':Box (F=none):=⟨by rw[<-HT.o,aab (by show 5<=k;omega)];rfl⟩
   obtain⟨y0,y1,y2,y3,y4⟩:=oW HB0.o
   clear HT HC
   go_wp2
   have:=HT'.o
   subst this
   refine bodyPost_ret (v:=.tuple #[.agg #[.int .u8 0,.string ⟨#[]⟩],.bool false]) (by simp[results,results259,go_sem,y0,y1]) rfl ⟨rfl,?_⟩
   iterate 2 (refine Below.setCell ?_ (by simp) _)
   exact hbw
theorem Tj(x1 x2:Value)(p:UInt8×ByteArray->Bool)(w:World)(hW:kg w)
  (hc:∀(x:UInt8×ByteArray) (w1:World),Below w.heap.size w w1->Calls prog 277 #[.agg #[.int .u8 (x.1.toNat:Int),.string x.2],x1,x2] w1 fun e w2=>e=.returned (.bool (p x))/\Below w1.heap.size w1 w2) :
  Calls prog 259 #[.func (.func 277) #[] #[x1,x2]] w fun e w'=>e=.returned (Fe (fQ.find? p))/\Below w.heap.size w w':=by
 obtain⟨c0,c1,c2,c3,c4,c5,c6,c7,c8,c9⟩:=hW
 obtain⟨F,HF⟩:∃F,Box (fQ.find? p=F):=⟨_,⟨rfl⟩⟩
 rw[HF.o]
 have hlt:=aaq w _ c0
 have HC:=Box.m hc
 clear hc
 go_enter func259,ntmps259
 go_wp2
 clear c0 c1 c2 c3 c4 c5 c6 c7 c8 c9
 go_loopg [7] 5 (fun gf i wx=>∃k:Nat,k<=5/\i=.int .i64 k/\Box ((fQ.drop k).find? p=F)/\Below (w.heap.size+1) (w.alloc (.cells #[.int .u8 0,.string ⟨#[]⟩] 284)) wx/\5 - k<=gf)
 case atStart=>exact⟨0,by omega,rfl,HF,Below.refl _ _,by omega⟩
 case round=>
  obtain⟨k,hk,rfl,HT,hb,hgf⟩:=hrel
  clear HF
  have hbw:Below w.heap.size w wr:=(ag.alloc af _).trans (hb.mono (by omega))
  have hsz:w.heap.size+1<=wr.heap.size:=by have:=hb.size;simpa using this
  have HB0:=Box.m ((hb.block w.heap.size (by omega)).trans (bF w _))
  by_cases hk5:k<5
  ·obtain⟨x,hx,ix⟩:=Zr k hk5
   have HX:=Box.m hx
   clear hx
   have hbA:Below w.heap.size w (wr.alloc (.cells #[.int .u8 (x.1.toNat:Int),.string x.2] 284)):=hbw.alloc (by omega) _
   have HCL:=Box.m (HC.o x _ hbA)
   cases hq:p x
   ·have HT':Box ((fQ.drop (k+1)).find? p=F):=⟨by rw[<-HT.o,xY k x HX.o hq]⟩
    rw[hq]at HCL
    clear HT HX HC hq
    go_wp2_with fail
    refine HCL.o.mono ?_
    rintro e w2 ⟨rfl,hb2⟩
    clear HCL
    go_wp2
    go_roundg (5 - (k+1))
    case measure=>omega
    case rel=>exact⟨k+1,by omega,by go_num,HT',(hb.alloc (by omega) _).trans (hb2.mono (by simp;omega)),by omega⟩
   ·have HT':Box (F=some x):=⟨by rw[<-HT.o,vL k x HX.o hq]⟩
    rw[hq]at HCL
    clear HT HX HC hq
    go_wp2_with fail
    refine HCL.o.mono ?_
    rintro e w2 ⟨rfl,hb2⟩
    clear HCL
    obtain⟨y0,y1,y2,y3,y4⟩:=oW ((hb2.block w.heap.size (by simp;omega)).trans ((Below.heap_alloc wr _ _ (by omega)).trans HB0.o))
    obtain⟨z0,z1,z2,z3,z4⟩:=oW ((hb2.block wr.heap.size (by simp)).trans (bF wr _))
    have hbE:Below w.heap.size w w2:=hbA.trans (hb2.mono (by simp;omega))
    go_wp2
    have:=HT'.o
    subst this
    refine bodyPost_ret (v:=.tuple #[.agg #[.int .u8 (x.1.toNat:Int),.string x.2],.bool true]) (by simp[results,results259,go_sem,y0,y1]) rfl ⟨rfl,?_⟩
    iterate 2 (refine Below.setCell ?_ (by simp) _)
    exact hbE
  ·have HT':Box (F=none):=⟨by rw[<-HT.o,aab (by show 5<=k;omega)];rfl⟩
   obtain⟨y0,y1,y2,y3,y4⟩:=oW HB0.o
   clear HT HC
   go_wp2
   have:=HT'.o
   subst this
   refine bodyPost_ret (v:=.tuple #[.agg #[.int .u8 0,.string ⟨#[]⟩],.bool false]) (by simp[results,results259,go_sem,y0,y1]) rfl ⟨rfl,?_⟩
   iterate 2 (refine Below.setCell ?_ (by simp) _)
   exact hbw
theorem PW(x:UInt8×ByteArray)(p q:Nat)(s:ByteArray)(k:Nat)(w:World)(h1:w.cell? ⟨p,0,none⟩=some (.string s))(h2:w.cell? ⟨q,0,none⟩=some (.int .i64 (k:Int)))(hk:k<s.size):
  Calls prog 260 #[.agg #[.int .u8 (x.1.toNat:Int),.string x.2],.pointer (some ⟨p,0,none⟩),.pointer (some ⟨q,0,none⟩)] w fun e w'=>e=.returned (.bool (x.1==s[k]))/\Below w.heap.size w w':=by
 have hp:=aaq w _ h1
 have hq:=aaq w _ h2
 have hk0:(0:Int)<=(k:Int):=by omega
 have hk1:(k:Int)<(s.size:Int):=by omega
 have hE:((x.1.toNat:Int)==(s[k].toNat:Int))=(x.1==s[k]):=by
  rw[ZX,beq_iff_eq,beq_iff_eq,<-UInt8.toNat_inj]
  omega
 go_enter func260,ntmps260
 go_wp2
 go_region
 go_wp2
 go_ret
 exact⟨rfl,(ag.alloc af _).drew⟩
theorem Ma(s p:aa):Lib.hasPrefix s p=p.isPrefixOf s:=rfl
theorem Lc(x:UInt8×ByteArray)(p q:Nat)(s:ByteArray)(k:Nat)(w:World)(h1:w.cell? ⟨p,0,none⟩=some (.string s))(h2:w.cell? ⟨q,0,none⟩=some (.int .i64 (k:Int)))(hk:k<s.size):
  Calls prog 277 #[.agg #[.int .u8 (x.1.toNat:Int),.string x.2],.pointer (some ⟨p,0,none⟩),.pointer (some ⟨q,0,none⟩)] w fun e w'=>e=.returned (.bool (x.2.data.toList.isPrefixOf (s.data.toList.drop k)))/\Below w.heap.size w w':=by
 have hp:=aaq w _ h1
 have hq:=aaq w _ h2
 have hk0:(0:Int)<=(k:Int):=by omega
 have hk1:(k:Int)<=(s.size:Int):=by omega
 have ex:(s.extract k s.size).data.toList=s.data.toList.drop k:=by
  rw[aB,aae (by rw[Z8,ae];exact VQ _)]
 obtain⟨z,HZ⟩:∃z,Box (x.2.data.toList.isPrefixOf (s.data.toList.drop k)=z):=⟨_,⟨rfl⟩⟩
 rw[HZ.o]
 have hb0:Below w.heap.size w (w.alloc (.cells #[.int .u8 (x.1.toNat:Int),.string x.2] 284)):=ag.alloc af _
 have HK:Box (∀w',Below (w.alloc (.cells #[.int .u8 (x.1.toNat:Int),.string x.2] 284)).heap.size (w.alloc (.cells #[.int .u8 (x.1.toNat:Int),.string x.2] 284)) w'->w'.cell? ⟨p,0,none⟩=some (.string s)/\w'.cell? ⟨q,0,none⟩=some (.int .i64 (k:Int))/\w'.cell? ⟨w.heap.size,1,none⟩=some (.string x.2)/\Below (w.alloc (.cells #[.int .u8 (x.1.toNat:Int),.string x.2] 284)).heap.size (w.alloc (.cells #[.int .u8 (x.1.toNat:Int),.string x.2] 284)) w'):=⟨fun w' hb=>by
  obtain⟨y0,y1,y2,y3,y4⟩:=oW (bF w (.cells #[.int .u8 (x.1.toNat:Int),.string x.2] 284))
  exact yP ((hb0.cell (p:=⟨p,0,none⟩) hp).trans h1) ((hb0.cell (p:=⟨q,0,none⟩) hq).trans h2) y1 hb⟩
 go_enter func277,ntmps277
 go_wp2_with fail
 go_region_held3 (fun w'=>w'.cell? ⟨p,0,none⟩=some (.string s)/\w'.cell? ⟨q,0,none⟩=some (.int .i64 (k:Int))/\w'.cell? ⟨w.heap.size,1,none⟩=some (.string x.2)/\Below (w.alloc (.cells #[.int .u8 (x.1.toNat:Int),.string x.2] 284)).heap.size (w.alloc (.cells #[.int .u8 (x.1.toNat:Int),.string x.2] 284)) w')
  ((first|assumption|exact HK.o _ ag.drew))
  (first
   | (go_at_call 159;refine(Tryz.strings_HasPrefix _ _ _).mono ?_;rw[ex,Ma,HZ.o];rintro e w5 ⟨rfl,rfl⟩))
 all_goals
  go_wp2
  go_ret
  exact⟨rfl,hb0.drew⟩
theorem OP{T e:TypeId}{B b:Nat}{p:Value}{bs:List Value}{W W':World}(h:Lib.BuilderAtF T e B b p bs W)(key:∀(k:Nat) (o:Obj),W.heap[k]?=some o->(∃c fz,o=.cells c T fz\/o=.cells c e fz)->W'.heap[k]?=some o):Lib.BuilderAtF T e B b p bs W':=by
 obtain⟨hB,v,h1,⟨h2,h3⟩,h4⟩:=h
 refine⟨hB,v,key _ _ h1 ⟨_,_,.inl rfl⟩,⟨h2,?_⟩,h4⟩
 rcases h3 with h3|⟨g,cap,cur,fz,a,b',c,d⟩
 ·exact .inl h3
 ·exact .inr ⟨g,cap,cur,fz,a,b',key _ _ c ⟨_,_,.inr rfl⟩,d⟩
theorem OE{T e:TypeId}{B b:Nat}{bs:List Value}{W W':World}(h:Lib.IsBuilderF T e B b bs W)(key:∀(k:Nat) (o:Obj),W.heap[k]?=some o->(∃c fz,o=.cells c T fz\/o=.cells c e fz)->W'.heap[k]?=some o):Lib.IsBuilderF T e B b bs W':=
 h.elim (fun x=>.inl (OP x key)) (fun x=>.inr (OP x key))
theorem lG{T e:TypeId}{B b:Nat}{bs:List Value}{W W':World}(h:Lib.IsBuilderF T e B b bs W)(hb:Below W.heap.size W W'):Lib.IsBuilderF T e B b bs W':=
 OE h (fun k _ hk _=>(hb.block k (GL.1 hk).1).trans hk)
theorem oI(l:aa)(s:ByteArray):Lib.byteCells l++Lib.strCells s=Lib.byteCells (l++s.data.toList):=by
 simp[Lib.byteCells,Lib.strCells]
theorem wB(l:aa)(c:UInt8):Lib.byteCells l++[.int .u8 (c.toNat:Int)]=Lib.byteCells (l++[c]):=by
 simp[Lib.byteCells]
theorem R3(c:UInt8):(∃x,fQ.find? (fun x=>x.1==c)=some x/\sN c=x.2.data.toList/\x.2.size<=6)\/(fQ.find? (fun x=>x.1==c)=none/\sN c=[c]):=by
 unfold fQ sN
 by_cases h1:c=38
 ·subst h1;exact .inl ⟨_,rfl,rfl,by decide⟩
 by_cases h2:c=34
 ·subst h2;exact .inl ⟨_,rfl,rfl,by decide⟩
 by_cases h3:c=39
 ·subst h3;exact .inl ⟨_,rfl,rfl,by decide⟩
 by_cases h4:c=60
 ·subst h4;exact .inl ⟨_,rfl,rfl,by decide⟩
 by_cases h5:c=62
 ·subst h5;exact .inl ⟨_,rfl,rfl,by decide⟩
 refine .inr ⟨?_,by rw[if_neg h1,if_neg h2,if_neg h3,if_neg h4,if_neg h5]⟩
 simp[Ne.symm h1,Ne.symm h2,Ne.symm h3,Ne.symm h4,Ne.symm h5]
theorem BU(c:UInt8):(sN c).length<=6:=by
 unfold sN
 repeat' split
 all_goals simp
theorem qg(l:aa):(eY l).length<=6*l.length:=by
 induction l with
 | nil=>simp[eY]
 | cons c l ih=>
  have e:eY (c::l)=sN c++eY l:=rfl
  rw[e,aag,aaa]
  have:=BU c
  omega
theorem Fz(s:ByteArray)(k:Nat)(h:k<s.size):eY (s.data.toList.take (k+1))=eY (s.data.toList.take k)++sN s[k]:=by
 have e:s.data.toList.take (k+1)=s.data.toList.take k++[s[k]]:=by
  rw[List.take_add_one,xU s k h]
  rfl
 rw[e]
 unfold eY
 rw[List.flatMap_append]
 simp
theorem kg.lt{w:World}(h:kg w):12<w.heap.size:=aaq w _ h.c0
theorem kg.below{w w':World}{B:Nat}(h:kg w)(hb:Below B w w')(hB:12<B):kg w':=by
 have key:∀(i:Nat) (v:Value),w.cell? ⟨12,i,none⟩=some v->w'.cell? ⟨12,i,none⟩=some v:=fun i v hv=>(hb.cell (p:=⟨12,i,none⟩) hB).trans hv
 exact⟨key _ _ h.c0,key _ _ h.c1,key _ _ h.c2,key _ _ h.c3,key _ _ h.c4,key _ _ h.c5,key _ _ h.c6,key _ _ h.c7,key _ _ h.c8,key _ _ h.c9⟩
theorem xW{w:World}{b:Nat}{v:Value}{T:TypeId}{fz:Nat×Nat}(h:w.heap[b]?=some (.cells #[v] T fz)):w.cell? ⟨b,0,none⟩=some v:=by simp[World.cell?,h]
theorem Cr(s:ByteArray)(w:World)(hW:kg w)(hs:s.size<=100000000):
  Calls prog 237 #[.string s] w fun e w'=>∃S:ByteArray,e=.returned (.string S)/\S.data.toList=eY s.data.toList/\Below w.heap.size w w':=by
 obtain⟨w1,hw1⟩:∃w1,w1=w.alloc (.cells #[.string s] 9):=⟨_,rfl⟩
 have hb1:Below w.heap.size w w1:=by rw[hw1];exact ag.alloc af _
 have hs1:w1.heap.size=w.heap.size+1:=by rw[hw1];simp
 have hbox:w1.heap[w.heap.size]?=some (.cells #[.string s] 9 (0,0)):=by rw[hw1];exact bF w _
 have HW1:=Box.m (hW.below hb1 hW.lt)
 have HB0:Box (Lib.IsBuilderF 34 5 (w.heap.size+1) (w.heap.size+1) (Lib.byteCells []) (w1.alloc (.cells #[.pointer none,.slice none 0 0] 34))):=⟨Lib.IsBuilderF.of (.inl ⟨VQ _,_,by rw[<-hs1];exact bF w1 _,aar _ _ _ _,by simp[Value.ownBlock]⟩)⟩
 have hb2:Below (w.heap.size+1) w1 (w1.alloc (.cells #[.pointer none,.slice none 0 0] 34)):=by rw[<-hs1];exact ag.alloc af _
 rw[hw1]at HB0 hb2
 have hg0:=hW.lt
 clear hW
 go_enter func237,ntmps237
 go_wp2
 go_loopg [9] s.size (fun gf i wx=>∃k:Nat,k<=s.size/\i=.int .i64 k/\Below (w.heap.size+1) w1 wx/\Box (Lib.IsBuilderF 34 5 (w.heap.size+1) (w.heap.size+1) (Lib.byteCells (eY (s.data.toList.take k))) wx)/\s.size - k<=gf)
 case atStart=>exact⟨0,ZV _,rfl,by rw[hw1];exact hb2,⟨HB0.o⟩,by omega⟩
 case round=>
  obtain⟨k,hk,rfl,hb,HB,hgf⟩:=hrel
  have hsz:w.heap.size+1<=wr.heap.size:=by have:=hb.size;omega
  have hbx:wr.heap[w.heap.size]?=some (.cells #[.string s] 9 (0,0)):=(hb.block _ (by omega)).trans hbox
  have hc1:=xW hbx
  by_cases hlt:k<s.size
  ·have hwA:Box (∀w',Below (wr.heap.size+1) (wr.alloc (.cells #[.int .i64 (k:Int)] 3)) w'->w'.cell? ⟨w.heap.size,0,none⟩=some (.string s)/\w'.cell? ⟨wr.heap.size,0,none⟩=some (.int .i64 (k:Int))/\kg w'/\Below wr.heap.size wr w'):=⟨fun w' hb'=>by
    have hbA:Below wr.heap.size wr w':=(ag.alloc af _).trans (hb'.mono (by omega))
    exact⟨xW ((hbA.block _ (by omega)).trans hbx),xW ((hb'.block _ (by omega)).trans (bF wr _)),(HW1.o.below hb (by omega)).below hbA (by omega),hbA⟩⟩
   have hsA:(wr.alloc (.cells #[.int .i64 (k:Int)] 3)).heap.size=wr.heap.size+1:=by simp
   have HFD:=Box.m (Wy (.pointer (some ⟨w.heap.size,0,none⟩)) (.pointer (some ⟨wr.heap.size,0,none⟩)) (fun x=>x.1==s[k]) (wr.alloc (.cells #[.int .i64 (k:Int)] 3)) (hwA.o _ ag).2.2.1 (fun x w' hb'=>PW x _ _ s k w' (hwA.o w' (hb'.mono (by omega))).1 (hwA.o w' (hb'.mono (by omega))).2.1 hlt))
   have HL:Box ((Lib.byteCells (eY (s.data.toList.take k))).length<=600000000):=⟨by
    have h1:=qg (s.data.toList.take k)
    rw[List.length_take,ae]at h1
    simp only[Lib.byteCells,aac]
    omega⟩
   rcases R3 s[k]with⟨x,hx1,hx2,hx3⟩|⟨hx1,hx2⟩
   ·have HN:Box (Lib.byteCells (eY (s.data.toList.take k))++Lib.strCells x.2=Lib.byteCells (eY (s.data.toList.take (k+1)))):=⟨by rw[oI,Fz s k hlt,hx2]⟩
    rw[hx1]at HFD
    simp only[Fe]at HFD
    clear hx1 hx2
    go_wp2_with fail
    refine HFD.o.mono ?_
    rintro e w2 ⟨rfl,hb2'⟩
    clear HFD
    have hbB:=(hwA.o w2 (hb2'.mono (by omega))).2.2.2
    have hs2:=hbB.size
    have HB2:=Box.m (lG HB.o (hbB.alloc hs2 (.cells #[.int .u8 (x.1.toNat:Int),.string x.2] 284)))
    go_wp2_with fail
    refine(Tryz.Builder_WriteString (w.heap.size+1) (w.heap.size+1) _ x.2 _ HB2.o (by have:=HL.o;omega) (by simp;omega)).mono ?_
    rintro e w3 ⟨rfl,hA3,hb3,ho3⟩
    rw[HN.o]at hA3
    go_wp2
    go_roundg (s.size - (k+1))
    case measure=>omega
    case rel=>exact⟨k+1,by omega,by go_num,(hb.trans ((hbB.alloc hs2 _).mono (by omega))).trans (hb3.mono (by omega)),⟨.inr hA3⟩,by omega⟩
   ·have HN:Box (Lib.byteCells (eY (s.data.toList.take k))++[.int .u8 (s[k].toNat:Int)]=Lib.byteCells (eY (s.data.toList.take (k+1)))):=⟨by rw[wB,Fz s k hlt,hx2]⟩
    rw[hx1]at HFD
    simp only[Fe]at HFD
    clear hx1 hx2
    go_wp2_with fail
    refine HFD.o.mono ?_
    rintro e w2 ⟨rfl,hb2'⟩
    clear HFD
    obtain⟨d1,d2,d3,hbB⟩:=hwA.o w2 (hb2'.mono (by omega))
    have hs2:=hbB.size
    have e1:=aaq w2 _ d1
    have e2:=aaq w2 _ d2
    have HB2:=Box.m (lG HB.o (hbB.alloc hs2 (.cells #[.int .u8 0,.string ⟨#[]⟩] 284)))
    go_wp2_with fail
    refine(Tryz.Builder_WriteByte (w.heap.size+1) (w.heap.size+1) _ _ _ HB2.o (by have:=HL.o;omega) (by simp;omega)).mono ?_
    rintro e w3 ⟨rfl,hA3,hb3,ho3⟩
    rw[HN.o]at hA3
    go_wp2
    go_roundg (s.size - (k+1))
    case measure=>omega
    case rel=>exact⟨k+1,by omega,by go_num,(hb.trans ((hbB.alloc hs2 _).mono (by omega))).trans (hb3.mono (by omega)),⟨.inr hA3⟩,by omega⟩
  ·have HD:Box (eY (s.data.toList.take k)=eY s.data.toList):=⟨by rw[aae (by rw[ae];omega)]⟩
   rw[HD.o]at HB
   go_wp2_with fail
   refine(Tryz.Builder_String (w.heap.size+1) (w.heap.size+1) _ _ HB.o hsz).mono ?_
   rintro e w3 ⟨rfl,hA3,hb3,ho3⟩
   go_wp2
   go_ret
   exact⟨_,rfl,rfl,hb1.trans ((hb.trans hb3).mono (by omega))⟩
theorem JN:qz=fQ.map fun x=>(x.2.data.toList,x.1):=rfl
theorem Bj(n:Nat):fJ n []=[]:=by cases n<;>rfl
theorem DT(w:aa×UInt8)(h:w∈qz):1<=w.1.length/\w.1.length<=6:=by
 have:∀w∈qz,1<=w.1.length/\w.1.length<=6:=by decide
 exact this w h
theorem wu:∀(n m:Nat) (l:aa),l.length<=n->l.length<=m->fJ n l=fJ m l
 | n,m,[],_,_=>by rw[Bj,Bj]
 | 0,_,_::_,h,_=>absurd h (by simp)
 | _,0,_::_,_,h=>absurd h (by simp)
 | n+1,m+1,c::r,hn,hm=>by
  rw[aaa]at hn hm
  unfold fJ
  cases hf:qz.find? fun w=>w.1.isPrefixOf (ah (c::r))with
  | none=>
   simp only[hf]
   rw[wu n m r (by omega) (by omega)]
  | some w=>
   simp only[hf]
   have:=(DT w (aah hf)).1
   have hl:((c::r).drop w.1.length).length<=r.length:=by rw[Z8,aaa];omega
   rw[wu n m _ (by omega) (by omega)]
theorem Rv(c:UInt8)(r:aa)(w:aa×UInt8)(hf:(qz.find? fun w=>w.1.isPrefixOf (ah (c::r)))=some w):dH (c::r)=w.2::dH ((c::r).drop w.1.length):=by
 have e:dH (c::r)=w.2::fJ r.length ((c::r).drop w.1.length):=by
  show fJ (r.length+1) (c::r)=_
  conv=>lhs;unfold fJ
  simp only[hf]
 have:=(DT w (aah hf)).1
 rw[e]
 unfold dH
 rw[wu r.length _ _ (by rw[Z8,aaa];omega) af]
theorem Vx(c:UInt8)(r:aa)(hf:(qz.find? fun w=>w.1.isPrefixOf (ah (c::r)))=none):dH (c::r)=c::dH r:=by
 show fJ (r.length+1) (c::r)=_
 unfold fJ
 simp only[hf]
 rfl
theorem NG(sm s:ByteArray)(k:Nat)(hsm:sm.data.toList=ah s.data.toList):(qz.find? fun w=>w.1.isPrefixOf (ah (s.data.toList.drop k)))=(fQ.find? fun x=>x.2.data.toList.isPrefixOf (sm.data.toList.drop k)).map fun x=>(x.2.data.toList,x.1):=by
 rw[JN,List.find?_map,hsm]
 unfold ah
 rw[aad]
 rfl
theorem PN(sm s:ByteArray)(k:Nat)(hk:k<s.size)(hsm:sm.data.toList=ah s.data.toList):
  (∃x,fQ.find? (fun x=>x.2.data.toList.isPrefixOf (sm.data.toList.drop k))=some x/\dH (s.data.toList.drop k)=x.1::dH (s.data.toList.drop (k+x.2.size))/\k+x.2.size<=s.size/\1<=x.2.size) \/
  (fQ.find? (fun x=>x.2.data.toList.isPrefixOf (sm.data.toList.drop k))=none/\dH (s.data.toList.drop k)=s[k]::dH (s.data.toList.drop (k+1))):=by
 have hd:s.data.toList.drop k=s[k]::s.data.toList.drop (k+1):=by
  rw[Z9 (by rw[ae];exact hk)];rfl
 have hw:=NG sm s k hsm
 cases hf:fQ.find? (fun x=>x.2.data.toList.isPrefixOf (sm.data.toList.drop k))with
 | none=>
  rw[hf]at hw
  refine .inr ⟨rfl,?_⟩
  rw[hd]at hw ⊢
  exact Vx _ _ hw
 | some x=>
  rw[hf]at hw
  have hp:=List.find?_some hf
  have hle:=(List.isPrefixOf_iff_prefix.1 hp).length_le
  rw[Z8,ae,ae]at hle
  have hss:sm.size=s.size:=by rw[<-ae,hsm,<-ae];unfold ah;simp
  have h1:1<=x.2.size:=by
   have:=(DT _ (aah hw)).1
   simp only at this
   rw[ae]at this
   exact this
  refine .inl ⟨x,rfl,?_,by omega,h1⟩
  rw[hd]at hw
  have:=Rv _ _ _ hw
  rw[<-hd]at this
  rw[this]
  simp only
  rw[aam,ae]
theorem ll{e:TypeId}{b:Nat}{w w':World}{k:Nat}{c:Array Value}{T:TypeId}{fz:Nat×Nat}(h:Lib.OthersKept e (some b) w w')(hk:w.heap[k]?=some (.cells c T fz))(hb:k≠b)(hT:T≠e):w'.heap[k]?=some (.cells c T fz):=
 h k _ hk (by simpa using hb) (fun c' fz' e'=>by injection e' with _ h2 _;exact hT h2)
theorem Ym{T e:TypeId}{B b:Nat}{bs:List Value}{W:World}(h:Lib.IsBuilderF T e B b bs W){q:Nat}{c:Array Value}{U:TypeId}{fz:Nat×Nat}(hq:W.heap[q]?=some (.cells c U fz))(h1:U≠T)(h2:U≠e)(i:Nat)(v:Value):Lib.IsBuilderF T e B b bs (W.setCell ⟨q,i,none⟩ v):=
 OE h (fun k o hk ho=>by
  have hne:k≠q:=by
   rintro rfl
   rw[hq]at hk
   obtain⟨c',fz',h|h⟩:=ho
   ·rw[h]at hk;injection hk with hk;injection hk with _ hk _;exact h1 hk
   ·rw[h]at hk;injection hk with hk;injection hk with _ hk _;exact h2 hk
  rw[heap_setCell_other W ⟨q,i,none⟩ k v hne]
  exact hk)
theorem Sw{T e:TypeId}{B b:Nat}{bs:List Value}{W:World}(h:Lib.IsBuilderF T e B b bs W){q:Nat}{c:Array Value}{U:TypeId}{fz:Nat×Nat}(hq:W.heap[q]?=some (.cells c U fz))(h1:U≠T):q≠b:=by
 rintro rfl
 rcases h with⟨_,v,h2,_⟩|⟨_,v,h2,_⟩
 ·rw[hq]at h2;injection h2 with h2;injection h2 with _ h2 _;exact h1 h2
 ·rw[hq]at h2;injection h2 with h2;injection h2 with _ h2 _;exact h1 h2
theorem FQ{w w4:World}{q m k':Nat}{sm:ByteArray}{bs:List Value}{z:Int}{u:Value}(hz:z=(k':Int))(hq:w4.heap[q]?=some (.cells #[u] 3 (0,0)))(hm:w4.heap[m]?=some (.cells #[.string sm] 9 (0,0)))(hI:Lib.IsBuilderF 34 5 w.heap.size w.heap.size bs w4)(hb:Below w.heap.size w w4)(hqB:w.heap.size<=q):
  ((w4.setCell ⟨q,0,none⟩ (.int .i64 z)).alloc (.cells #[.int .i64 z] 3)).heap[w4.heap.size]?=some (.cells #[.int .i64 (k':Int)] 3 (0,0))/\((w4.setCell ⟨q,0,none⟩ (.int .i64 z)).alloc (.cells #[.int .i64 z] 3)).heap[m]?=some (.cells #[.string sm] 9 (0,0))/\Below w.heap.size w ((w4.setCell ⟨q,0,none⟩ (.int .i64 z)).alloc (.cells #[.int .i64 z] 3))/\Lib.IsBuilderF 34 5 w.heap.size w.heap.size bs ((w4.setCell ⟨q,0,none⟩ (.int .i64 z)).alloc (.cells #[.int .i64 z] 3)):=by
 subst hz
 have hsz:(w4.setCell ⟨q,0,none⟩ (.int .i64 (k':Int))).heap.size=w4.heap.size:=by simp
 have hmq:m≠q:=by
  rintro rfl
  rw[hq]at hm;injection hm with hm;injection hm with _ hm _;exact absurd hm (by decide)
 have hml:m<w4.heap.size:=(GL.1 hm).1
 have h1:=Ym hI hq (by decide) (by decide) 0 (.int .i64 (k':Int))
 refine⟨?_,?_,?_,?_⟩
 ·rw[<-hsz];exact bF _ _
 ·exact(Below.heap_alloc _ _ m (by rw[hsz];exact hml)).trans ((heap_setCell_other w4 ⟨q,0,none⟩ m _ hmq).trans hm)
 ·exact(hb.setCell hqB _).alloc (by rw[hsz];exact hb.size) _
 ·exact lG h1 (ag.alloc af _)
theorem KI(s:ByteArray)(w:World)(hW:kg w)(hs:s.size<=100000000):
  Calls prog 270 #[.string s] w fun e w'=>∃S:ByteArray,e=.returned (.string S)/\S.data.toList=dH s.data.toList/\Below w.heap.size w w':=by
 have HB0:Box (Lib.IsBuilderF 34 5 w.heap.size w.heap.size (Lib.byteCells []) (w.alloc (.cells #[.pointer none,.slice none 0 0] 34))):=⟨Lib.IsBuilderF.of (.inl ⟨VQ _,_,bF w _,aar _ _ _ _,by simp[Value.ownBlock]⟩)⟩
 have hb0:Below w.heap.size w (w.alloc (.cells #[.pointer none,.slice none 0 0] 34)):=ag.alloc af _
 have HW:=Box.m hW
 have hg0:=hW.lt
 clear hW
 go_enter func270,ntmps270
 go_wp2_with fail
 refine(iB s _ hs).mono ?_
 rintro e w1 ⟨sm,rfl,hsm,hb1⟩
 have hs1:w.heap.size+1<=w1.heap.size:=by have:=hb1.size;simpa using this
 have HS:=Box.m hsm
 have hss:sm.size=s.size:=by rw[<-ae,hsm,<-ae];unfold ah;simp
 clear hsm
 have hb2:Below w1.heap.size w1 (w1.alloc (.cells #[.string sm] 9)):=ag.alloc af _
 have hb3:Below (w1.heap.size+1) (w1.alloc (.cells #[.string sm] 9)) ((w1.alloc (.cells #[.string sm] 9)).alloc (.cells #[.int .i64 0] 3)):=ag.alloc (by simp) _
 have HB3:=Box.m (lG HB0.o (hb1.trans ((hb2.trans (hb3.mono (by omega))).mono hb1.size)))
 have hbw3:Below w.heap.size w ((w1.alloc (.cells #[.string sm] 9)).alloc (.cells #[.int .i64 0] 3)):=hb0.trans ((hb1.trans ((hb2.trans (hb3.mono (by omega))).mono hb1.size)).mono (by simp))
 have hm0:((w1.alloc (.cells #[.string sm] 9)).alloc (.cells #[.int .i64 0] 3)).heap[w1.heap.size]?=some (.cells #[.string sm] 9 (0,0)):=(hb3.block _ (by omega)).trans (bF w1 _)
 have hq0:((w1.alloc (.cells #[.string sm] 9)).alloc (.cells #[.int .i64 0] 3)).heap[w1.heap.size+1]?=some (.cells #[.int .i64 0] 3 (0,0)):=by
  have:=bF (w1.alloc (.cells #[.string sm] 9)) (.cells #[.int .i64 0] 3)
  simpa using this
 clear HB0 hb0 hb1 hb2 hb3
 go_wp2
 go_loopg [5] s.size (fun gf x wx=>∃(k q:Nat) (o:aa),k<=s.size/\w.heap.size<=q/\x=.pointer (some ⟨q,0,none⟩)/\wx.heap[q]?=some (.cells #[.int .i64 (k:Int)] 3 (0,0))/\wx.heap[w1.heap.size]?=some (.cells #[.string sm] 9 (0,0))/\Below w.heap.size w wx/\Box (Lib.IsBuilderF 34 5 w.heap.size w.heap.size (Lib.byteCells o) wx)/\Box (o++dH (s.data.toList.drop k)=dH s.data.toList)/\o.length<=k/\s.size - k<=gf)
 case atStart=>exact⟨0,w1.heap.size+1,[],ZV _,by omega,by simp,hq0,hm0,hbw3,HB3,⟨by simp⟩,by simp,by omega⟩
 case round=>
  obtain⟨k,q,o,hk,hqB,rfl,hq,hm,hb,HB,HT,ho,hgf⟩:=hrel
  clear HB3 hbw3 hm0 hq0
  have hqb:=Sw HB.o hq (by decide)
  have hmb:=Sw HB.o hm (by decide)
  have hql:q<wr.heap.size:=(GL.1 hq).1
  have hml:w1.heap.size<wr.heap.size:=(GL.1 hm).1
  have cq:=xW hq
  have hsz:=hb.size
  have HL:Box ((Lib.byteCells o).length<=100000000):=⟨by simp only[Lib.byteCells,aac];omega⟩
  by_cases hlt:k<s.size
  ·have HFD:=Box.m (Tj (.pointer (some ⟨w1.heap.size,0,none⟩)) (.pointer (some ⟨q,0,none⟩)) (fun x=>x.2.data.toList.isPrefixOf (sm.data.toList.drop k)) wr (HW.o.below hb hg0) (fun x w' hb'=>Lc x _ _ sm k w' (xW ((hb'.block _ hml).trans hm)) (xW ((hb'.block _ hql).trans hq)) (by omega)))
   rcases PN sm s k hlt HS.o with⟨x,hx1,hx2,hx3,hx4⟩|⟨hx1,hx2⟩
   ·have HN:Box ((o++[x.1])++dH (s.data.toList.drop (k+x.2.size))=dH s.data.toList):=⟨by rw[<-HT.o,hx2];simp⟩
    rw[hx1]at HFD
    simp only[Fe]at HFD
    clear hx1 hx2 HT
    go_wp2_with fail
    refine HFD.o.mono ?_
    rintro e w2 ⟨rfl,hb2⟩
    clear HFD
    have hs2:=hb2.size
    have hb3:Below wr.heap.size wr (w2.alloc (.cells #[.int .u8 (x.1.toNat:Int),.string x.2] 284)):=hb2.alloc hs2 _
    have HB3:=Box.m (lG HB.o hb3)
    have HQ3:=Box.m ((hb3.block q hql).trans hq)
    have HM3:=Box.m ((hb3.block _ hml).trans hm)
    have HX3:=Box.m (bF w2 (.cells #[.int .u8 (x.1.toNat:Int),.string x.2] 284))
    go_wp2_with fail
    refine(Tryz.Builder_WriteByte w.heap.size w.heap.size _ _ _ HB3.o (by have:=HL.o;omega) (by simp;omega)).mono ?_
    rintro e w4 ⟨rfl,hA4,hb4,ho4⟩
    rw[wB]at hA4
    have hq4:=ll ho4 HQ3.o hqb (by decide)
    have hm4:=ll ho4 HM3.o hmb (by decide)
    have hx5:=ll ho4 HX3.o (by omega) (by decide)
    have hbw4:Below w.heap.size w w4:=(hb.trans (hb3.mono hsz)).trans hb4
    obtain⟨y0,y1,y2,y3,y4⟩:=oW hx5
    have z0:=xW hq4
    have zf:w4.frozen? ⟨q,0,none⟩=false:=by simp[World.frozen?,hq4]
    have zl:q<w4.heap.size:=(GL.1 hq4).1
    have HX:=Box.m (FQ (k':=k+x.2.size) (z:=(k:Int)+(x.2.size:Int)) (by simp) hq4 hm4 (.inr hA4) hbw4 hqB)
    clear hq4 hm4 hx5 hA4 hb4 ho4 HX3 HM3 HQ3 HB3
    go_wp2
    go_roundg (s.size - (k+x.2.size))
    case measure=>omega
    case rel=>exact⟨k+x.2.size,w4.heap.size,o++[x.1],by omega,Xu hqB (ZW zl),by simp,HX.o.1,HX.o.2.1,HX.o.2.2.1,⟨HX.o.2.2.2⟩,HN,by simp;omega,by omega⟩
   ·have HN:Box ((o++[s[k]])++dH (s.data.toList.drop (k+1))=dH s.data.toList):=⟨by rw[<-HT.o,hx2];simp⟩
    rw[hx1]at HFD
    simp only[Fe]at HFD
    clear hx1 hx2 HT
    go_wp2_with fail
    refine HFD.o.mono ?_
    rintro e w2 ⟨rfl,hb2⟩
    clear HFD
    have hs2:=hb2.size
    have hb3:Below wr.heap.size wr (w2.alloc (.cells #[.int .u8 0,.string ⟨#[]⟩] 284)):=hb2.alloc hs2 _
    have HB3:=Box.m (lG HB.o hb3)
    have HQ3:=Box.m ((hb3.block q hql).trans hq)
    have HM3:=Box.m ((hb3.block _ hml).trans hm)
    have cq2:=xW ((hb2.block q hql).trans hq)
    have cl2:q<w2.heap.size:=by omega
    go_wp2_with fail
    refine(Tryz.Builder_WriteByte w.heap.size w.heap.size _ _ _ HB3.o (by have:=HL.o;omega) (by simp;omega)).mono ?_
    rintro e w4 ⟨rfl,hA4,hb4,ho4⟩
    rw[wB]at hA4
    have hq4:=ll ho4 HQ3.o hqb (by decide)
    have hm4:=ll ho4 HM3.o hmb (by decide)
    have hbw4:Below w.heap.size w w4:=(hb.trans (hb3.mono hsz)).trans hb4
    have z0:=xW hq4
    have zf:w4.frozen? ⟨q,0,none⟩=false:=by simp[World.frozen?,hq4]
    have zl:q<w4.heap.size:=(GL.1 hq4).1
    have HX:=Box.m (FQ (k':=k+1) (z:=(k:Int)+1) (by simp) hq4 hm4 (.inr hA4) hbw4 hqB)
    clear hq4 hm4 hA4 hb4 ho4 HM3 HQ3 HB3
    go_wp2
    go_roundg (s.size - (k+1))
    case measure=>omega
    case rel=>exact⟨k+1,w4.heap.size,o++[s[k]],by omega,Xu hqB (ZW zl),by simp,HX.o.1,HX.o.2.1,HX.o.2.2.1,⟨HX.o.2.2.2⟩,HN,by simp;omega,by omega⟩
  ·have HD:Box (o=dH s.data.toList):=⟨by
    rw[<-HT.o,aab (by rw[ae];omega)]
    simp[dH,fJ]⟩
   go_wp2_with fail
   refine(Tryz.Builder_String w.heap.size w.heap.size _ _ HB.o hsz).mono ?_
   rintro e w3 ⟨rfl,hA3,hb3,ho3⟩
   go_wp2
   go_ret
   exact⟨_,rfl,HD.o,hb.trans hb3⟩
theorem jK{w:World}{b:Nat}{u v x:Value}{T:TypeId}(h:w.heap[b]?=some (.cells #[u,v,x] T (0,0))):w.cell? ⟨b,0,none⟩=some u/\w.cell? ⟨b,1,none⟩=some v/\w.cell? ⟨b,2,none⟩=some x/\w.frozen? ⟨b,0,none⟩=false/\w.frozen? ⟨b,1,none⟩=false/\w.frozen? ⟨b,2,none⟩=false/\b<w.heap.size:=
 ⟨by simp[World.cell?,h],by simp[World.cell?,h],by simp[World.cell?,h],by simp[World.frozen?,h],by simp[World.frozen?,h],by simp[World.frozen?,h],(GL.1 h).1⟩
theorem PR.setO{w:World}{b a q i:Nat}{pg sm:ByteArray}{L v:Value}(h:PR w b pg sm a L)(hq:b≠q):PR (w.setCell ⟨q,i,none⟩ v) b pg sm a L:=(heap_setCell_other w ⟨q,i,none⟩ b v hq).trans h
theorem cO{w w':World}{r:Option Nat}{q i:Nat}{v:Value}(h:w.grownBy w' r)(hq:w.heap.size<=q):w.grownBy (w'.setCell ⟨q,i,none⟩ v) r:=
 ⟨h.os,h.tape,h.output,by simpa using h.size,fun k hk hr=>(heap_setCell_other w' ⟨q,i,none⟩ k v (by show k≠q;omega)).trans (h.block k hk hr)⟩
def iy:ByteArray:=⟨#[34,39]⟩
def KG:ByteArray:=⟨#[32,9,13,10,62]⟩
def rP:Obj:=.cells #[.int .i64 0,.int .i64 0,.string ⟨#[]⟩] 84
theorem vG(b a:Nat)(pg sm:ByteArray)(L:Value)(w:World)(h:PR w b pg sm a L)(hl:pg.size<=100000000)(hs:sm.size=pg.size)(ha:a<=pg.size)(hq:fF iy sm a=false)(hend:a+fT KG.data.toList sm.data.toList a=pg.size):
  Calls prog 252 #[.pointer (some ⟨b,0,none⟩)] w fun e w'=>e=.returned (.tuple #[.agg #[.int .i64 0,.int .i64 0,.string ⟨#[]⟩],.bool false])/\PR w' b pg sm pg.size L/\w.grownBy w' (some b):=by
 have hblt:=h.cells.2.2.2.2.2.2
 have hb0:Below w.heap.size w (w.alloc rP):=ag.alloc af _
 have HP:=Box.m (h.below hb0 hblt)
 have hz0:=bF w rP
 unfold rP at hz0 hb0 HP
 clear h
 have HQ:=Box.m hq
 have HE:=Box.m hend
 clear hq hend
 go_enter func252,ntmps252
 go_wp2_with fail
 refine(cZ b a pg sm iy L _ HP.o hs ha).mono ?_
 rw[HQ.o]
 rintro e w1 ⟨rfl,hb1⟩
 have hs1:=hb1.size
 have HP1:=Box.m (HP.o.below hb1 (by simp;omega))
 obtain⟨c0,c1,c2,c3,f2,f3,hbl⟩:=HP1.o.cells
 have HZ1:=Box.m ((hb1.block w.heap.size (by simp)).trans hz0)
 have hg1:=(aL hb0 (some b)).trans (aL (hb1.mono (by simp)) (some b))
 go_wp2_with fail
 refine(j5 b a pg sm KG L _ HP1.o hl hs ha).mono ?_
 rw[HE.o]
 rintro e w2 ⟨rfl,hP2,_,hg2⟩
 have hs2:=hg2.size
 have hw1:w.heap.size<w1.heap.size:=by have:=hb1.size;simp at this;omega
 have HZ2:=Box.m ((hg2.block w.heap.size hw1 (by simp;omega)).trans HZ1.o)
 have hg3:=hg1.trans hg2
 have HP2:=Box.m hP2
 clear hP2
 go_wp2_with fail
 refine(gM b pg.size pg sm L _ HP2.o).mono ?_
 rw[decide_eq_true (rfl:pg.size=pg.size)]
 rintro e w3 ⟨rfl,rfl⟩
 obtain⟨y0,y1,y2,y3,y4,y5,y6⟩:=jK HZ2.o
 go_wp2
 refine bodyPost_ret (v:=.tuple #[.agg #[.int .i64 0,.int .i64 0,.string ⟨#[]⟩],.bool false]) (by simp[results,results252,go_sem,y0,y1,y2]) rfl ⟨rfl,?_⟩
 exact⟨(((HP2.o.below (Below.refl w2.heap.size w2).drew HP2.o.cells.2.2.2.2.2.2).setO (by omega)).setO (by omega)).setO (by omega),cO (cO (cO (hg3.trans (aL (Below.refl w2.heap.size w2).drew _)) af) af) af⟩
theorem Un{W w':World}{p q:Addr}{u v:Value}(h0:W.cell? p=some u)(h1:W.cell? q=some v)(hb:Below W.heap.size W w'):w'.cell? p=some u/\w'.cell? q=some v/\Below W.heap.size W w':=
 ⟨(hb.cell (p:=p) (aaq W _ h0)).trans h0,(hb.cell (p:=q) (aaq W _ h1)).trans h1,hb⟩
theorem DJ(b a t:Nat)(pg sm:ByteArray)(L:Value)(w:World)(h:PR w b pg sm a L)(hW:kg w)(hgb:12≠b)(hl:pg.size<=100000000)(hs:sm.size=pg.size)(ha:a<=pg.size)(hq:fF iy sm a=false)(hend:a+fT KG.data.toList sm.data.toList a=t)(ht:t<pg.size)(hat:a<=t):
  Calls prog 252 #[.pointer (some ⟨b,0,none⟩)] w fun e w'=>(∃V:ByteArray,e=.returned (.tuple #[.agg #[.int .i64 (a:Int),.int .i64 ((t - a:Nat):Int),.string V],.bool true])/\V.data.toList=dH ((pg.data.toList.drop a).take (t - a)))/\PR w' b pg sm t L/\w.grownBy w' (some b):=by
 have hblt:=h.cells.2.2.2.2.2.2
 have hb0:Below w.heap.size w (w.alloc rP):=ag.alloc af _
 have HP:=Box.m (h.below hb0 hblt)
 have hz0:=bF w rP
 unfold rP at hz0 hb0 HP
 clear h
 have HQ:=Box.m hq
 have HE:=Box.m hend
 have hgl:=hW.lt
 have HW:=Box.m hW
 clear hq hend hW
 have hd:decide (t=pg.size)=false:=decide_eq_false (by omega)
 have ex:(pg.extract a t).data.toList=(pg.data.toList.drop a).take (t - a):=aB pg a t
 have hex:(pg.extract a t).size<=100000000:=by simp;omega
 go_enter func252,ntmps252
 go_wp2_with fail
 refine(cZ b a pg sm iy L _ HP.o hs ha).mono ?_
 rw[HQ.o]
 rintro e w1 ⟨rfl,hb1⟩
 have hs1:=hb1.size
 have HP1:=Box.m (HP.o.below hb1 (by simp;omega))
 obtain⟨c0,c1,c2,c3,f2,f3,hbl⟩:=HP1.o.cells
 have HZ1:=Box.m ((hb1.block w.heap.size (by simp)).trans hz0)
 have hg1:=(aL hb0 (some b)).trans (aL (hb1.mono (by simp)) (some b))
 go_wp2_with fail
 refine(j5 b a pg sm KG L _ HP1.o hl hs ha).mono ?_
 rw[HE.o]
 rintro e w2 ⟨rfl,hP2,_,hg2⟩
 have hs2:=hg2.size
 have hw1:w.heap.size<w1.heap.size:=by have:=hb1.size;simp at this;omega
 have HZ2:=Box.m ((hg2.block w.heap.size hw1 (by simp;omega)).trans HZ1.o)
 have hg3:=hg1.trans hg2
 have HP2:=Box.m hP2
 clear hP2 c0 c1 c2 c3 f2 f3 HZ1 hg2 hb1 hb0 hz0
 go_wp2_with fail
 refine(gM b t pg sm L _ HP2.o).mono ?_
 rw[hd]
 rintro e w3 ⟨rfl,rfl⟩
 obtain⟨W,hWe⟩:∃W,W=w2.drew:=⟨_,rfl⟩
 have hbW:Below w2.heap.size w2 W:=by rw[hWe];exact ag.drew
 rw[<-hWe]
 have hgW:=hg3.trans (aL hbW (some b))
 have HPW:=Box.m (HP2.o.below hbW HP2.o.cells.2.2.2.2.2.2)
 have HZW:=Box.m ((hbW.block w.heap.size (by omega)).trans HZ2.o)
 have HWW:Box (kg W):=⟨by
  have key:∀(i:Nat) (v:Value),w.cell? ⟨12,i,none⟩=some v->W.cell? ⟨12,i,none⟩=some v:=fun i v hv=>by
   have e:=hgW.block 12 hgl (by simpa using hgb)
   unfold World.cell? at hv ⊢
   simp only[e]
   exact hv
  have h:=HW.o
  exact⟨key _ _ h.c0,key _ _ h.c1,key _ _ h.c2,key _ _ h.c3,key _ _ h.c4,key _ _ h.c5,key _ _ h.c6,key _ _ h.c7,key _ _ h.c8,key _ _ h.c9⟩⟩
 have hgW0:=HWW.o.lt
 obtain⟨c0,c1,c2,c3,f2,f3,hbl⟩:=HPW.o.cells
 obtain⟨y0,y1,y2,y3,y4,y5,y6⟩:=jK HZW.o
 clear hWe HP2 HZ2 HP1 HP hbW
 have k1:(0:Int)<=(a:Int):=by omega
 have k2:(a:Int)<=(t:Int):=by omega
 have k3:(t:Int)<=(pg.size:Int):=by omega
 have hwr:IntKind.i64.wrap ((t:Int) - (a:Int))=((t - a:Nat):Int):=by
  rw[IntKind.wrap_i64]
  omega
 go_wp2_with fail
 go_region_held3 (fun w'=>w'.cell? ⟨b,0,none⟩=some (.string pg)/\w'.cell? ⟨b,2,none⟩=some (.int .i64 (t:Int))/\Below W.heap.size W w')
  ((go_split_ands;exact Un c0 c2 (by first|exact ag.drew|assumption|exact Below.alloc (by assumption) (Below.size (by assumption)) _|exact Below.trans (by assumption) (Below.mono hb5 (Below.size (by assumption)))|exact Below.alloc ((Below.refl W.heap.size W).drew.trans hb5) hb5.size _|(iterate 3 (refine Below.setCell ?_ (by simp) _));assumption)))
  (first
   | (go_at_call 270;refine(KI (pg.extract a t) _ (HWW.o.below (by first|exact ag.drew|exact(ag.drew.alloc af _)|assumption) hgW0) hex).mono ?_;rintro e w5 ⟨V,rfl,hV,hb5⟩;(try obtain⟨z0,z1,z2,z3,z4,z5,z6⟩:=jK ((hb5.block W.heap.size (by simp)).trans (bF _ _)))))
 ·have hbW5:Below W.heap.size W w5:=ag.drew.trans hb5
  have hs5:=hbW5.size
  obtain⟨W6,hW6⟩:∃W6,W6=w5.alloc (.cells #[.int .i64 (a:Int),.int .i64 ((t - a:Nat):Int),.string V] 84):=⟨_,rfl⟩
  rw[<-hW6]
  have hb6:Below W.heap.size W W6:=by rw[hW6];exact hbW5.alloc hs5 _
  have hn6:W6.heap[w5.heap.size]?=some (.cells #[.int .i64 (a:Int),.int .i64 ((t - a:Nat):Int),.string V] 84 (0,0)):=by rw[hW6];exact bF w5 _
  obtain⟨x0,x1,x2,x3,x4,x5,x6⟩:=jK ((hb6.block w.heap.size y6).trans HZW.o)
  obtain⟨z0,z1,z2,z3,z4,z5,z6⟩:=jK hn6
  have HP6:=Box.m (HPW.o.below hb6 hbl)
  have hg6:=hgW.trans (aL hb6 (some b))
  clear hW6 hn6 hb6 hbW5 hb5 HPW hgW y0 y1 y2 y3 y4 y5 c0 c1 c2 c3 f2 f3
  go_wp2
  refine bodyPost_ret (v:=.tuple #[.agg #[.int .i64 (a:Int),.int .i64 ((t - a:Nat):Int),.string V],.bool true]) (by simp[results,results252,go_sem,x0,x1,x2]) rfl ⟨⟨V,rfl,by rw[hV,ex]⟩,?_,?_⟩
  ·exact((HP6.o.setO (by omega)).setO (by omega)).setO (by omega)
  ·exact cO (cO (cO hg6 af) af) af
 ·have hbW5:Below W.heap.size W w5:=(ag.drew.alloc af _).trans (hb5.mono (by simp))
  have hs5:=hbW5.size
  obtain⟨x0,x1,x2,x3,x4,x5,x6⟩:=jK ((hbW5.block w.heap.size y6).trans HZW.o)
  have hne:w.heap.size≠W.heap.size:=by omega
  go_wp2
  refine bodyPost_ret (v:=.tuple #[.agg #[.int .i64 (a:Int),.int .i64 ((t - a:Nat):Int),.string V],.bool true]) (by simp[results,results252,go_sem,x0,x1,x2]) rfl ⟨⟨V,rfl,by rw[hV,ex]⟩,?_,?_⟩
  ·repeat (refine PR.setO ?_ (by omega))
   exact HPW.o.below hbW5 hbl
  ·repeat (refine cO ?_ (by omega))
   exact hgW.trans (aL hbW5 _)
theorem Gq(b a:Nat)(pg sm:ByteArray)(L:Value)(w:World)(h:PR w b pg sm a L)(hl:pg.size<=100000000)(hs:sm.size=pg.size)(ha:a<pg.size)(hq:fF iy sm a=true)(hend:(a+1)+fT (pg.extract a (a+1)).data.toList sm.data.toList (a+1)=pg.size):
  Calls prog 252 #[.pointer (some ⟨b,0,none⟩)] w fun e w'=>e=.returned (.tuple #[.agg #[.int .i64 0,.int .i64 0,.string ⟨#[]⟩],.bool false])/\PR w' b pg sm pg.size L/\w.grownBy w' (some b):=by
 have hblt:=h.cells.2.2.2.2.2.2
 have hb0:Below w.heap.size w (w.alloc rP):=ag.alloc af _
 have HP:=Box.m (h.below hb0 hblt)
 have hz0:=bF w rP
 unfold rP at hz0 hb0 HP
 clear h
 have HQ:=Box.m hq
 have HE:=Box.m hend
 clear hq hend
 have k1:(0:Int)<=(a:Int):=by omega
 have k2:(a:Int)+1<=(pg.size:Int):=by omega
 go_enter func252,ntmps252
 go_wp2_with fail
 refine(cZ b a pg sm iy L _ HP.o hs (by omega)).mono ?_
 rw[HQ.o]
 rintro e w1 ⟨rfl,hb1⟩
 have hs1:=hb1.size
 have HP1:=Box.m (HP.o.below hb1 (by simp;omega))
 obtain⟨c0,c1,c2,c3,f2,f3,hbl⟩:=HP1.o.cells
 have HZ1:=Box.m ((hb1.block w.heap.size (by simp)).trans hz0)
 have hg1:=(aL hb0 (some b)).trans (aL (hb1.mono (by simp)) (some b))
 have hw1:w.heap.size<w1.heap.size:=by have:=hb1.size;simp at this;omega
 have HP1':=Box.m ((HP1.o.below (Below.refl w1.heap.size w1).drew hbl).setA (a+1))
 rw[aas]at HP1'
 go_wp2_with fail
 go_region
 go_wp2_with fail
 refine(j5 b (a+1) pg sm (pg.extract a (a+1)) L _ HP1'.o hl hs ha).mono ?_
 rw[HE.o]
 rintro e w2 ⟨rfl,hP2,_,hg2⟩
 have hs2:=hg2.size
 have HZ2:=Box.m ((hg2.block w.heap.size (by simp;exact hw1) (by simp;omega)).trans ((heap_setCell_other _ ⟨b,2,none⟩ w.heap.size _ (by show w.heap.size≠b;omega)).trans HZ1.o))
 have hg3:=((hg1.trans (aL (Below.refl w1.heap.size w1).drew _)).trans (bP _ _ _ _)).trans hg2
 have HP2:=Box.m hP2
 clear hP2
 go_wp2_with fail
 refine(gM b pg.size pg sm L _ HP2.o).mono ?_
 rw[decide_eq_true (rfl:pg.size=pg.size)]
 rintro e w3 ⟨rfl,rfl⟩
 obtain⟨y0,y1,y2,y3,y4,y5,y6⟩:=jK HZ2.o
 go_wp2
 refine bodyPost_ret (v:=.tuple #[.agg #[.int .i64 0,.int .i64 0,.string ⟨#[]⟩],.bool false]) (by simp[results,results252,go_sem,y0,y1,y2]) rfl ⟨rfl,?_⟩
 exact⟨(((HP2.o.below (Below.refl w2.heap.size w2).drew HP2.o.cells.2.2.2.2.2.2).setO (by omega)).setO (by omega)).setO (by omega),cO (cO (cO (hg3.trans (aL (Below.refl w2.heap.size w2).drew _)) af) af) af⟩
theorem Ec(b a t:Nat)(pg sm:ByteArray)(L:Value)(w:World)(h:PR w b pg sm a L)(hW:kg w)(hgb:12≠b)(hl:pg.size<=100000000)(hs:sm.size=pg.size)(ha:a<pg.size)(hq:fF iy sm a=true)(hend:(a+1)+fT (pg.extract a (a+1)).data.toList sm.data.toList (a+1)=t)(ht:t<pg.size)(hat:a+1<=t):
  Calls prog 252 #[.pointer (some ⟨b,0,none⟩)] w fun e w'=>(∃V:ByteArray,e=.returned (.tuple #[.agg #[.int .i64 ((a:Int)+1),.int .i64 ((t - (a+1):Nat):Int),.string V],.bool true])/\V.data.toList=dH ((pg.data.toList.drop (a+1)).take (t - (a+1))))/\PR w' b pg sm (t+1) L/\w.grownBy w' (some b):=by
 have hblt:=h.cells.2.2.2.2.2.2
 have hb0:Below w.heap.size w (w.alloc rP):=ag.alloc af _
 have HP:=Box.m (h.below hb0 hblt)
 have hz0:=bF w rP
 unfold rP at hz0 hb0 HP
 clear h
 have HQ:=Box.m hq
 have HE:=Box.m hend
 have hgl:=hW.lt
 have HW:=Box.m hW
 clear hq hend hW
 have hd:decide (t=pg.size)=false:=decide_eq_false (by omega)
 have ex:(pg.extract (a+1) t).data.toList=(pg.data.toList.drop (a+1)).take (t - (a+1)):=aB pg (a+1) t
 have hex:(pg.extract (a+1) t).size<=100000000:=by simp;omega
 have q1:(0:Int)<=(a:Int):=by omega
 have q2:(a:Int)+1<=(pg.size:Int):=by omega
 go_enter func252,ntmps252
 go_wp2_with fail
 refine(cZ b a pg sm iy L _ HP.o hs (by omega)).mono ?_
 rw[HQ.o]
 rintro e w1 ⟨rfl,hb1⟩
 have hs1:=hb1.size
 have HP1:=Box.m (HP.o.below hb1 (by simp;omega))
 obtain⟨c0,c1,c2,c3,f2,f3,hbl⟩:=HP1.o.cells
 have HZ1:=Box.m ((hb1.block w.heap.size (by simp)).trans hz0)
 have hg1:=(aL hb0 (some b)).trans (aL (hb1.mono (by simp)) (some b))
 have hw1:w.heap.size<w1.heap.size:=by have:=hb1.size;simp at this;omega
 have HP1':=Box.m ((HP1.o.below (Below.refl w1.heap.size w1).drew hbl).setA (a+1))
 rw[aas]at HP1'
 go_wp2_with fail
 go_region
 go_wp2_with fail
 refine(j5 b (a+1) pg sm (pg.extract a (a+1)) L _ HP1'.o hl hs ha).mono ?_
 rw[HE.o]
 rintro e w2 ⟨rfl,hP2,_,hg2⟩
 have hs2:=hg2.size
 have hw2:w1.heap.size<=w2.heap.size:=by simpa using hs2
 have HZ2:=Box.m ((hg2.block w.heap.size (by simp;exact hw1) (by simp;omega)).trans ((heap_setCell_other _ ⟨b,2,none⟩ w.heap.size _ (by show w.heap.size≠b;omega)).trans HZ1.o))
 have hg3:=((hg1.trans (aL (Below.refl w1.heap.size w1).drew _)).trans (bP _ _ _ _)).trans hg2
 have HP2:=Box.m hP2
 clear hP2 c0 c1 c2 c3 f2 f3 HZ1 HP1' hg2 hb1 hb0 hz0
 go_wp2_with fail
 refine(gM b t pg sm L _ HP2.o).mono ?_
 rw[hd]
 rintro e w3 ⟨rfl,rfl⟩
 obtain⟨W,hWe⟩:∃W,W=w2.drew:=⟨_,rfl⟩
 have hbW:Below w2.heap.size w2 W:=by rw[hWe];exact ag.drew
 rw[<-hWe]
 have hgW:=hg3.trans (aL hbW (some b))
 have HPW:=Box.m (HP2.o.below hbW HP2.o.cells.2.2.2.2.2.2)
 have HZW:=Box.m ((hbW.block w.heap.size (by omega)).trans HZ2.o)
 have HWW:Box (kg W):=⟨by
  have key:∀(i:Nat) (v:Value),w.cell? ⟨12,i,none⟩=some v->W.cell? ⟨12,i,none⟩=some v:=fun i v hv=>by
   have e:=hgW.block 12 hgl (by simpa using hgb)
   unfold World.cell? at hv ⊢
   simp only[e]
   exact hv
  have h:=HW.o
  exact⟨key _ _ h.c0,key _ _ h.c1,key _ _ h.c2,key _ _ h.c3,key _ _ h.c4,key _ _ h.c5,key _ _ h.c6,key _ _ h.c7,key _ _ h.c8,key _ _ h.c9⟩⟩
 have hgW0:=HWW.o.lt
 obtain⟨c0,c1,c2,c3,f2,f3,hbl⟩:=HPW.o.cells
 obtain⟨y0,y1,y2,y3,y4,y5,y6⟩:=jK HZW.o
 clear hWe HP2 HZ2 HP1 HP hbW
 have k1:(0:Int)<=(a:Int)+1:=by omega
 have k2:(a:Int)+1<=(t:Int):=by omega
 have k3:(t:Int)<=(pg.size:Int):=by omega
 have hwr:IntKind.i64.wrap ((t:Int) - ((a:Int)+1))=((t - (a+1):Nat):Int):=by
  rw[IntKind.wrap_i64]
  omega
 go_wp2_with fail
 go_region_held3 (fun w'=>w'.cell? ⟨b,0,none⟩=some (.string pg)/\w'.cell? ⟨b,2,none⟩=some (.int .i64 (t:Int))/\Below W.heap.size W w')
  ((go_split_ands;exact Un c0 c2 (by first|exact ag.drew|assumption|exact Below.alloc (by assumption) (Below.size (by assumption)) _|exact Below.trans (by assumption) (Below.mono hb5 (Below.size (by assumption)))|exact Below.alloc ((Below.refl W.heap.size W).drew.trans hb5) hb5.size _|(iterate 3 (refine Below.setCell ?_ (by simp) _));assumption)))
  (first
   | (go_at_call 270;refine(KI (pg.extract (a+1) t) _ (HWW.o.below (by first|exact ag.drew|exact(ag.drew.alloc af _)|assumption) hgW0) hex).mono ?_;rintro e w5 ⟨V,rfl,hV,hb5⟩;(try obtain⟨z0,z1,z2,z3,z4,z5,z6⟩:=jK ((hb5.block W.heap.size (by simp)).trans (bF _ _)))))
 ·have hbW5:Below W.heap.size W w5:=ag.drew.trans hb5
  have hs5:=hbW5.size
  obtain⟨W6,hW6⟩:∃W6,W6=w5.alloc (.cells #[.int .i64 ((a:Int)+1),.int .i64 ((t - (a+1):Nat):Int),.string V] 84):=⟨_,rfl⟩
  rw[<-hW6]
  have hb6:Below W.heap.size W W6:=by rw[hW6];exact hbW5.alloc hs5 _
  have hn6:W6.heap[w5.heap.size]?=some (.cells #[.int .i64 ((a:Int)+1),.int .i64 ((t - (a+1):Nat):Int),.string V] 84 (0,0)):=by rw[hW6];exact bF w5 _
  obtain⟨x0,x1,x2,x3,x4,x5,x6⟩:=jK ((hb6.block w.heap.size y6).trans HZW.o)
  obtain⟨z0,z1,z2,z3,z4,z5,z6⟩:=jK hn6
  have HP6:=Box.m (HPW.o.below hb6 hbl)
  have hg6:=hgW.trans (aL hb6 (some b))
  clear hW6 hn6 hb6 hbW5 hb5 HPW hgW y0 y1 y2 y3 y4 y5 c0 c1 c2 c3 f2 f3
  obtain⟨d0,d1,d2,d3,g2,g3,dl⟩:=HP6.o.cells
  have HP7:=Box.m (HP6.o.setA (t+1))
  rw[aas]at HP7
  have n1:b≠w.heap.size:=by omega
  have n2:b≠w5.heap.size:=by omega
  go_wp2
  refine bodyPost_ret (v:=.tuple #[.agg #[.int .i64 ((a:Int)+1),.int .i64 ((t - (a+1):Nat):Int),.string V],.bool true]) (by simp[results,results252,go_sem,x0,x1,x2]) rfl ⟨⟨V,rfl,by rw[hV,ex]⟩,?_,?_⟩
  ·exact((HP7.o.setO (by omega)).setO (by omega)).setO (by omega)
  ·exact cO (cO (cO (hg6.trans (bP _ _ _ _)) af) af) af
 ·have hbW5:Below W.heap.size W w5:=(ag.drew.alloc af _).trans (hb5.mono (by simp))
  have hs5:=hbW5.size
  obtain⟨x0,x1,x2,x3,x4,x5,x6⟩:=jK ((hbW5.block w.heap.size y6).trans HZW.o)
  have hne:w.heap.size≠W.heap.size:=by omega
  obtain⟨d0,d1,d2,d3,g2,g3,dl⟩:=(HPW.o.below hbW5 hbl).cells
  have n1:b≠w.heap.size:=by omega
  have n2:b≠W.heap.size:=by omega
  go_wp2
  refine bodyPost_ret (v:=.tuple #[.agg #[.int .i64 ((a:Int)+1),.int .i64 ((t - (a+1):Nat):Int),.string V],.bool true]) (by simp[results,results252,go_sem,x0,x1,x2]) rfl ⟨⟨V,rfl,by rw[hV,ex]⟩,?_,?_⟩
  ·have h7:=((((HPW.o.below hbW5 hbl).setO (i:=0) (v:=.int .i64 ((a:Int)+1)) n2).setO (i:=1) (v:=.int .i64 ((t - (a+1):Nat):Int)) n2).setO (i:=2) (v:=.string V) n2).setA (t+1)
   rw[aas]at h7
   exact((h7.setO n1).setO n1).setO n1
  ·have hwW:w.heap.size<=W.heap.size:=by omega
   have h7:=(cO (i:=2) (v:=.string V) (cO (i:=1) (v:=.int .i64 ((t - (a+1):Nat):Int)) (cO (i:=0) (v:=.int .i64 ((a:Int)+1)) (hgW.trans (aL hbW5 _)) hwW) hwW) hwW).trans (bP _ b 2 (.int .i64 ((t:Int)+1)))
   exact cO (cO (cO h7 af) af) af
theorem Yl(P:UInt8->Bool)(h:∀n:Fin 256,P (UInt8.ofNat n.val)=true)(c:UInt8):P c=true:=by
 have:=h ⟨c.toNat,c.toNat_lt⟩
 have e:UInt8.ofNat c.toNat=c:=by simp
 simpa only[e]using this
theorem rU(p q:UInt8->Bool)(h:∀n:Fin 256,(p (UInt8.ofNat n.val)==q (UInt8.ofNat n.val))=true)(c:UInt8):p c=q c:=beq_iff_eq.1 (Yl (fun c=>p c==q c) h c)
def Ia:aa:=[32,9,13,10]
def XR:aa:=[32,9,13,10,62]
def Ya:aa:=[32,9,13,10,47,61,62]
def Uy:aa:=[32,9,13,10,47]
def J8:aa:=[97,98,99,100,101,102,103,104,105,106,107,108,109,110,111,112,113,114,115,116,117,118,119,120,121,122]
def Vz:aa:=J8++[48,49,50,51,52,53,54,55,56,57]
theorem YJ:∀c,(!XR.contains (aQ c))=eH c:=rU _ _ (by decide +kernel)
theorem YU:∀c,(!Ya.contains (aQ c))=aU c:=rU _ _ (by decide +kernel)
theorem XW:∀c,Ia.contains (aQ c)=dG c:=rU _ _ (by decide +kernel)
theorem Xb:∀c,Uy.contains (aQ c)=dw c:=rU _ _ (by decide +kernel)
theorem VJ:∀c,J8.contains (aQ c)=Ce c:=rU _ _ (by decide +kernel)
theorem WU:∀c,Vz.contains (aQ c)=cB c:=rU _ _ (by decide +kernel)
theorem Xd:∀c,([34,39]:aa).contains (aQ c)=(c==34||c==39):=rU _ _ (by decide +kernel)
theorem UV:∀c,([47,33,63]:aa).contains (aQ c)=(c==47||(c==33||c==63)):=rU _ _ (by decide +kernel)
theorem Zo:∀c,([62]:aa).contains (aQ c)=(c==62):=rU _ _ (by decide +kernel)
theorem ZO:∀c,([61]:aa).contains (aQ c)=(c==61):=rU _ _ (by decide +kernel)
theorem ZK:∀c,(!([34]:aa).contains (aQ c))=(c != 34):=rU _ _ (by decide +kernel)
theorem Zk:∀c,(!([39]:aa).contains (aQ c))=(c != 39):=rU _ _ (by decide +kernel)
theorem sj(set:aa)(p:UInt8->Bool)(hp:∀c,(!set.contains (aQ c))=p c)(l:aa)(a:Nat):fT set (ah l) a=((l.drop a).takeWhile p).length:=by
 unfold fT ah
 rw[<-aad,aan,aac]
 congr 2
 funext c
 exact hp c
theorem uH(set:aa)(p:UInt8->Bool)(hp:∀c,set.contains (aQ c)=p c)(l:aa)(a:Nat):lM set (ah l) a=((l.drop a).takeWhile p).length:=by
 unfold lM ah
 rw[<-aad,aan,aac]
 congr 2
 funext c
 exact hp c
theorem jT(set sm:ByteArray)(p:UInt8->Bool)(hp:∀c,set.data.toList.contains (aQ c)=p c)(l:aa)(hs:sm.data.toList=ah l)(a:Nat):fF set sm a=(l.drop a).head?.any p:=by
 unfold fF
 rw[hs]
 unfold ah
 rw[<-aad,List.head?_map,Option.any_map]
 congr 1
 funext c
 exact hp c
theorem zO(d:UInt8):∀s:aa,bu [d] s=if s.dropWhile (· != d)=[] then none else some (s.takeWhile (· != d),s.dropWhile (· != d))
 | []=>rfl
 | c::s=>by
  unfold bu
  by_cases h:c=d
  ·subst h
   simp[List.isPrefixOf]
  ·have h1:(c != d)=true:=by simpa using h
   have h2:([d]:aa).isPrefixOf (c::s)=false:=by
    simp only[List.isPrefixOf,Bool.and_true,beq_eq_false_iff_ne]
    exact fun e=>h e.symm
   rw[h2,List.dropWhile_cons_of_pos (p:=fun x=>x != d) h1,aaj (p:=fun x=>x != d) h1,zO d s]
   by_cases h3:s.dropWhile (· != d)=[]
   ·rw[if_pos h3,if_pos h3];rfl
   ·rw[if_neg h3,if_neg h3];rfl
def yw:aa->Option (aa×Bool)
 | []=>none
 | q::t=>if q=34\/q=39 then (if t.dropWhile (· != q)=[] then none else some (t.takeWhile (· != q),true)) else if (q::t).dropWhile eH=[] then none else some ((q::t).takeWhile eH,false)
def qn(q:Bool):Nat:=if q then 1 else 0
def WA(pg sm:ByteArray)(b a:Nat)(L:Value)(w:World):Option (aa×Bool)->Ending->World->Prop
 | none,e,w'=>e=.returned (.tuple #[.agg #[.int .i64 0,.int .i64 0,.string ⟨#[]⟩],.bool false])/\PR w' b pg sm pg.size L/\w.grownBy w' (some b)
 | some (v,q),e,w'=>(∃V:ByteArray,e=.returned (.tuple #[.agg #[.int .i64 ((a+qn q:Nat):Int),.int .i64 (v.length:Int),.string V],.bool true])/\V.data.toList=dH v)/\PR w' b pg sm (a+v.length+2*qn q) L/\a+v.length+2*qn q<=pg.size/\w.grownBy w' (some b)
theorem jQ{p:UInt8->Bool}(l:aa):(l.takeWhile p).length+(l.dropWhile p).length=l.length:=by
 rw[<-aag,aao]
theorem qD{p:UInt8->Bool}(l:aa):l.take (l.takeWhile p).length=l.takeWhile p:=by
 have e:=aao (p:=p) (l:=l)
 exact(congrArg (List.take (l.takeWhile p).length) e.symm).trans List.take_left
theorem yH(b a:Nat)(pg sm:ByteArray)(L:Value)(w:World)(h:PR w b pg sm a L)(hW:kg w)(hgb:12≠b)(hl:pg.size<=100000000)(hsm:sm.data.toList=ah pg.data.toList)(ha:a<=pg.size):
  Calls prog 252 #[.pointer (some ⟨b,0,none⟩)] w (WA pg sm b a L w (yw (pg.data.toList.drop a))):=by
 have hs:sm.size=pg.size:=by rw[<-ae,hsm,<-ae];unfold ah;simp
 have hq:=jT iy sm _ Xd pg.data.toList hsm a
 have hln:(pg.data.toList.drop a).length=pg.size - a:=by rw[Z8,ae]
 have hub:fT KG.data.toList sm.data.toList a=((pg.data.toList.drop a).takeWhile eH).length:=by rw[hsm];exact sj XR eH YJ _ a
 have hwl:=jQ (p:=eH) (pg.data.toList.drop a)
 cases hd:pg.data.toList.drop a with
 | nil=>
  rw[hd]at hq hln hub hwl
  simp at hln hub
  refine(vG b a pg sm L w h hl hs ha hq (by rw[hub];omega)).mono ?_
  exact fun e w' x=>x
 | cons c t=>
  have hlt:a<pg.size:=by rw[hd]at hln;simp at hln;omega
  by_cases hc:c=34\/c=39
  ·have hd1:pg.data.toList.drop (a+1)=t:=by
    have:=congrArg (List.drop 1) hd
    simpa[aam]using this
   have hpc:pg[a]=c:=by
    have:=Z9 (l:=pg.data.toList) (i:=a) (by rw[ae];exact hlt)
    rw[hd]at this
    injection this with h1 _
    exact h1.symm
   have hx:(pg.extract a (a+1)).data.toList=[c]:=by
    rw[aB,hd]
    simp
   have hcc:∀d,(!([c]:aa).contains (aQ d))=(d != c):=by
    rcases hc with rfl|rfl
    ·exact ZK
    ·exact Zk
   have hu:fT (pg.extract a (a+1)).data.toList sm.data.toList (a+1)=(t.takeWhile (· != c)).length:=by
    rw[hx,hsm,sj [c] (· != c) hcc _ (a+1),hd1]
   have hw2:=jQ (p:=(· != c)) t
   have hq1:fF iy sm a=true:=by
    rw[hq,hd]
    rcases hc with rfl|rfl<;>rfl
   have htl:t.length=pg.size - a - 1:=by rw[hd]at hln;simp at hln;omega
   rw[yw,if_pos hc]
   by_cases he:t.dropWhile (· != c)=[]
   ·rw[if_pos he]
    rw[he]at hw2
    simp at hw2
    refine(Gq b a pg sm L w h hl hs hlt hq1 (by rw[hu];omega)).mono ?_
    exact fun e w' x=>x
   ·rw[if_neg he]
    have hpos:0<(t.dropWhile (· != c)).length:=aap.2 he
    refine(Ec b a (a+1+(t.takeWhile (· != c)).length) pg sm L w h hW hgb hl hs hlt hq1 (by rw[hu]) (by omega) (by omega)).mono ?_
    rintro e w' ⟨⟨V,rfl,hV⟩,hP,hg⟩
    rw[hd1,Ws,qD]at hV
    refine⟨⟨V,?_,hV⟩,?_,?_,hg⟩
    ·rw[Ws];rfl
    ·have e:a+(t.takeWhile (· != c)).length+2*qn true=a+1+(t.takeWhile (· != c)).length+1:=by show _+2*1=_;omega
     rw[e];exact hP
    ·show _+2*1<=_
     omega
  ·have hq0:fF iy sm a=false:=by
    rw[hq,hd]
    simp only[List.head?_cons,Option.any_some,Bool.or_eq_false_iff,beq_eq_false_iff_ne]
    exact⟨fun e=>hc (.inl e),fun e=>hc (.inr e)⟩
   rw[hd]at hub hwl hln
   simp only[aaa]at hwl hln
   rw[yw,if_neg hc]
   by_cases he:(c::t).dropWhile eH=[]
   ·rw[if_pos he]
    rw[he]at hwl
    simp at hwl
    refine(vG b a pg sm L w h hl hs ha hq0 (by rw[hub];omega)).mono ?_
    exact fun e w' x=>x
   ·rw[if_neg he]
    have hpos:0<((c::t).dropWhile eH).length:=aap.2 he
    refine(DJ b a (a+((c::t).takeWhile eH).length) pg sm L w h hW hgb hl hs ha hq0 (by rw[hub]) (by omega) (by omega)).mono ?_
    rintro e w' ⟨⟨V,rfl,hV⟩,hP,hg⟩
    rw[hd,Ws,qD]at hV
    refine⟨⟨V,?_,hV⟩,hP,?_,hg⟩
    ·rw[Ws];rfl
    ·show _+2*0<=_
     omega
def yt:ByteArray:=⟨#[32,9,13,10,47,61,62]⟩
def gL:ByteArray:=⟨#[32,9,13,10]⟩
def isA:ByteArray:=⟨#[61]⟩
theorem Dc(b a u g:Nat)(pg sm:ByteArray)(L:Value)(w:World)(h:PR w b pg sm a L)(hl:pg.size<=100000000)(hs:sm.size=pg.size)(ha:a<pg.size)(hu:(a+1)+fT yt.data.toList sm.data.toList (a+1)=u)(hg:u+lM gL.data.toList sm.data.toList u=g)(hq:fF isA sm g=false):
  Calls prog 218 #[.pointer (some ⟨b,0,none⟩)] w fun e w'=>e=.returned (.tuple #[])/\PR w' b pg sm g L/\w.grownBy w' (some b):=by
 obtain⟨c0,c1,c2,c3,f2,f3,hb⟩:=h.cells
 have HU:=Box.m hu
 have HG:=Box.m hg
 have HQ:=Box.m hq
 have hau:a+1<=u:=by omega
 have HP1:=Box.m (h.setA (a+1))
 rw[aas]at HP1
 clear hu hg hq h
 go_enter func218,ntmps218
 go_wp2_with fail
 refine(j5 b (a+1) pg sm yt L _ HP1.o hl hs ha).mono ?_
 rw[HU.o]
 rintro e w2 ⟨rfl,hP2,hu2,hg2⟩
 have hg02:=(bP w b 2 (.int .i64 ((a:Int)+1))).trans hg2
 have HP2:=Box.m hP2
 clear hP2 hg2 HP1 c0 c1 c2 c3 f2 f3
 obtain⟨d0,d1,d2,d3,g2,g3,hb2⟩:=HP2.o.cells
 have k1:(0:Int)<=(a:Int):=by omega
 have k2:(a:Int)<=(u:Int):=by omega
 have k3:(u:Int)<=(sm.size:Int):=by omega
 go_wp2_with fail
 go_region
 go_wp2_with fail
 have HP3:=Box.m (HP2.o.below (Below.refl w2.heap.size w2).drew hb2)
 have hg03:=hg02.trans (aL (Below.refl w2.heap.size w2).drew (some b))
 refine(jI b u pg sm gL L _ HP3.o hl hs hu2).mono ?_
 rw[HG.o]
 rintro e w4 ⟨rfl,hP4,hu4,hg4⟩
 have hg04:=hg03.trans hg4
 have HP4:=Box.m hP4
 have hb4:=hP4.cells.2.2.2.2.2.2
 clear hP4 hg4 HP3 HP2 d0 d1 d2 d3 g2 g3
 go_wp2_with fail
 refine(cZ b g pg sm isA L _ HP4.o hs hu4).mono ?_
 rw[HQ.o]
 rintro e w5 ⟨rfl,hb5⟩
 go_wp2
 exact bodyPost_ret (v:=.tuple #[]) (by simp[results,results218,go_sem]) rfl ⟨rfl,HP4.o.below hb5 hb4,hg04.trans (aL hb5 _)⟩
theorem bC{w w':World}{b k i:Nat}{v:Value}(hg:w.grownBy w' (some b))(hk:k≠b)(h:w.cell? ⟨k,i,none⟩=some v):w'.cell? ⟨k,i,none⟩=some v:=by
 have e:=hg.block k (aaq w _ h) (by simpa using hk)
 unfold World.cell? at h ⊢
 simp only[e]
 exact h
structure GP(w:World)(b:Nat):Prop where
 words:kg w
 leads:Fy w
 verbs:Oj w
 mx:Zu w
 n0:12≠b
 n1:11≠b
 n2:6≠b
 n3:0≠b
theorem GP.grown{w w':World}{b:Nat}(h:GP w b)(hg:w.grownBy w' (some b)):GP w' b:=by
 obtain⟨m,hm⟩:=h.mx
 have W:=h.words
 have E:=h.leads
 have V:=h.verbs
 exact⟨⟨bC hg h.n0 W.c0,bC hg h.n0 W.c1,bC hg h.n0 W.c2,bC hg h.n0 W.c3,bC hg h.n0 W.c4,bC hg h.n0 W.c5,bC hg h.n0 W.c6,bC hg h.n0 W.c7,bC hg h.n0 W.c8,bC hg h.n0 W.c9⟩,
  ⟨bC hg h.n1 E.c0,bC hg h.n1 E.c1,bC hg h.n1 E.c2⟩,
  ⟨bC hg h.n2 V.c0,bC hg h.n2 V.c1,bC hg h.n2 V.c2,bC hg h.n2 V.c3⟩,
  ⟨m,bC hg h.n3 hm⟩,h.n0,h.n1,h.n2,h.n3⟩
theorem Rq(b a u g k:Nat)(pg sm:ByteArray)(L:Value)(w:World)(h:PR w b pg sm a L)(hG:GP w b)(hl:pg.size<=100000000)(hsm:sm.data.toList=ah pg.data.toList)(ha:a<pg.size)(hu:(a+1)+fT yt.data.toList sm.data.toList (a+1)=u)(hg:u+lM gL.data.toList sm.data.toList u=g)(hq:fF isA sm g=true)(hgl:g<pg.size)(hk:(g+1)+lM gL.data.toList sm.data.toList (g+1)=k)(hv:yw (pg.data.toList.drop k)=none):
  Calls prog 218 #[.pointer (some ⟨b,0,none⟩)] w fun e w'=>e=.returned (.tuple #[])/\PR w' b pg sm pg.size L/\w.grownBy w' (some b):=by
 have hs:sm.size=pg.size:=by rw[<-ae,hsm,<-ae];unfold ah;simp
 obtain⟨c0,c1,c2,c3,f2,f3,hb⟩:=h.cells
 have HU:=Box.m hu
 have HG:=Box.m hg
 have HQ:=Box.m hq
 have HK:=Box.m hk
 have HV:=Box.m hv
 have HS:=Box.m hsm
 have HGP:=Box.m hG
 have hau:a+1<=u:=by omega
 have HP1:=Box.m (h.setA (a+1))
 rw[aas]at HP1
 clear hu hg hq h hk hv hG hsm
 go_enter func218,ntmps218
 go_wp2_with fail
 refine(j5 b (a+1) pg sm yt L _ HP1.o hl hs ha).mono ?_
 rw[HU.o]
 rintro e w2 ⟨rfl,hP2,hu2,hg2⟩
 have hg02:=(bP w b 2 (.int .i64 ((a:Int)+1))).trans hg2
 have HP2:=Box.m hP2
 clear hP2 hg2 HP1 c0 c1 c2 c3 f2 f3
 obtain⟨d0,d1,d2,d3,g2,g3,hb2⟩:=HP2.o.cells
 have k1:(0:Int)<=(a:Int):=by omega
 have k2:(a:Int)<=(u:Int):=by omega
 have k3:(u:Int)<=(sm.size:Int):=by omega
 go_wp2_with fail
 go_region
 go_wp2_with fail
 have HP3:=Box.m (HP2.o.below (Below.refl w2.heap.size w2).drew hb2)
 have hg03:=hg02.trans (aL (Below.refl w2.heap.size w2).drew (some b))
 refine(jI b u pg sm gL L _ HP3.o hl hs hu2).mono ?_
 rw[HG.o]
 rintro e w4 ⟨rfl,hP4,hu4,hg4⟩
 have hg04:=hg03.trans hg4
 have HP4:=Box.m hP4
 have hb4:=hP4.cells.2.2.2.2.2.2
 clear hP4 hg4 HP3 HP2 d0 d1 d2 d3 g2 g3
 go_wp2_with fail
 refine(cZ b g pg sm isA L _ HP4.o hs hu4).mono ?_
 rw[HQ.o]
 rintro e w5 ⟨rfl,hb5⟩
 have HP5:=Box.m (HP4.o.below hb5 hb4)
 obtain⟨d0,d1,d2,d3,g2,g3,hb6⟩:=HP5.o.cells
 have HP6:=Box.m (HP5.o.setA (g+1))
 rw[aas]at HP6
 have hg06:=(hg04.trans (aL hb5 (some b))).trans (bP w5 b 2 (.int .i64 ((g:Int)+1)))
 go_wp2_with fail
 refine(jI b (g+1) pg sm gL L _ HP6.o hl hs hgl).mono ?_
 rw[HK.o]
 rintro e w7 ⟨rfl,hP7,hu7,hg7⟩
 have hg07:=hg06.trans hg7
 have HP7:=Box.m hP7
 have HG7:=Box.m (HGP.o.grown hg07)
 clear hP7 hg7 d0 d1 d2 d3 g2 g3 HP4 HP5 HP6
 go_wp2_with fail
 refine(yH b k pg sm L _ HP7.o HG7.o.words HG7.o.n0 hl HS.o hu7).mono ?_
 rw[HV.o]
 rintro e w8 ⟨rfl,hP8,hg8⟩
 have hg08:=hg07.trans hg8
 go_wp2
 go_end0
 exact⟨rfl,hP8.below (ag.alloc af _) hP8.cells.2.2.2.2.2.2,hg08.trans (aL (ag.alloc af _) _)⟩
theorem RP(b a u g k:Nat)(pg sm:ByteArray)(L:Value)(w:World)(h:PR w b pg sm a L)(hG:GP w b)(hl:pg.size<=100000000)(hsm:sm.data.toList=ah pg.data.toList)(ha:a<pg.size)(hu:(a+1)+fT yt.data.toList sm.data.toList (a+1)=u)(hg:u+lM gL.data.toList sm.data.toList u=g)(hq:fF isA sm g=true)(hgl:g<pg.size)(hk:(g+1)+lM gL.data.toList sm.data.toList (g+1)=k)(v:aa)(q:Bool)(hv:yw (pg.data.toList.drop k)=some (v,q))(hn:bZ.contains ((sm.data.toList.drop a).take (u - a))=false):
  Calls prog 218 #[.pointer (some ⟨b,0,none⟩)] w fun e w'=>e=.returned (.tuple #[])/\PR w' b pg sm (k+v.length+2*qn q) L/\k+v.length+2*qn q<=pg.size/\w.grownBy w' (some b):=by
 have hs:sm.size=pg.size:=by rw[<-ae,hsm,<-ae];unfold ah;simp
 obtain⟨c0,c1,c2,c3,f2,f3,hb⟩:=h.cells
 have HU:=Box.m hu
 have HG:=Box.m hg
 have HQ:=Box.m hq
 have HK:=Box.m hk
 have HV:=Box.m hv
 have HN:Box (bZ.contains (sm.extract a u).data.toList=false):=⟨by rw[aB];exact hn⟩
 have HS:=Box.m hsm
 have HGP:=Box.m hG
 have hau:a+1<=u:=by omega
 have HP1:=Box.m (h.setA (a+1))
 rw[aas]at HP1
 clear hu hg hq h hk hv hG hsm hn
 go_enter func218,ntmps218
 go_wp2_with fail
 refine(j5 b (a+1) pg sm yt L _ HP1.o hl hs ha).mono ?_
 rw[HU.o]
 rintro e w2 ⟨rfl,hP2,hu2,hg2⟩
 have hg02:=(bP w b 2 (.int .i64 ((a:Int)+1))).trans hg2
 have HP2:=Box.m hP2
 clear hP2 hg2 HP1 c0 c1 c2 c3 f2 f3
 obtain⟨d0,d1,d2,d3,g2,g3,hb2⟩:=HP2.o.cells
 have k1:(0:Int)<=(a:Int):=by omega
 have k2:(a:Int)<=(u:Int):=by omega
 have k3:(u:Int)<=(sm.size:Int):=by omega
 go_wp2_with fail
 go_region
 go_wp2_with fail
 have HP3:=Box.m (HP2.o.below (Below.refl w2.heap.size w2).drew hb2)
 have hg03:=hg02.trans (aL (Below.refl w2.heap.size w2).drew (some b))
 refine(jI b u pg sm gL L _ HP3.o hl hs hu2).mono ?_
 rw[HG.o]
 rintro e w4 ⟨rfl,hP4,hu4,hg4⟩
 have hg04:=hg03.trans hg4
 have HP4:=Box.m hP4
 have hb4:=hP4.cells.2.2.2.2.2.2
 clear hP4 hg4 HP3 HP2 d0 d1 d2 d3 g2 g3
 go_wp2_with fail
 refine(cZ b g pg sm isA L _ HP4.o hs hu4).mono ?_
 rw[HQ.o]
 rintro e w5 ⟨rfl,hb5⟩
 have HP5:=Box.m (HP4.o.below hb5 hb4)
 obtain⟨d0,d1,d2,d3,g2,g3,hb6⟩:=HP5.o.cells
 have HP6:=Box.m (HP5.o.setA (g+1))
 rw[aas]at HP6
 have hg06:=(hg04.trans (aL hb5 (some b))).trans (bP w5 b 2 (.int .i64 ((g:Int)+1)))
 go_wp2_with fail
 refine(jI b (g+1) pg sm gL L _ HP6.o hl hs hgl).mono ?_
 rw[HK.o]
 rintro e w7 ⟨rfl,hP7,hu7,hg7⟩
 have hg07:=hg06.trans hg7
 have HP7:=Box.m hP7
 have HG7:=Box.m (HGP.o.grown hg07)
 clear hP7 hg7 d0 d1 d2 d3 g2 g3 HP4 HP5 HP6
 go_wp2_with fail
 refine(yH b k pg sm L _ HP7.o HG7.o.words HG7.o.n0 hl HS.o hu7).mono ?_
 rw[HV.o]
 rintro e w8 ⟨⟨V,rfl,hV⟩,hP8,hle,hg8⟩
 have hg08:=hg07.trans hg8
 have HP8:=Box.m hP8
 have hb8:=hP8.cells.2.2.2.2.2.2
 have hA:∀o:Obj,Below w8.heap.size w8 (w8.alloc o):=fun o=>ag.alloc af o
 have HL8:Box (∀o:Obj,Fy (w8.alloc o)):=⟨fun o=>((HG7.o.grown hg8).grown (aL (hA o) (some b))).leads⟩
 clear hP8 hg8
 go_wp2_with (go_at_call 253;refine(vJ _ _ (HL8.o _)).mono ?_;rw[HN.o];rintro e w9 ⟨rfl,rfl⟩)
 go_end0
 exact⟨rfl,HP8.o.below (hA _) hb8,hle,hg08.trans (aL (hA _) _)⟩
abbrev Lk:=Nat×Nat×ByteArray
def ku(L:List Lk):List Value:=L.flatMap fun l=>[Value.int .i64 (l.1:Int),Value.int .i64 (l.2.1:Int),Value.string l.2.2]
def lk2(l:Lk):Nat×Nat×aa:=(l.1,l.2.1,l.2.2.data.toList)
theorem D7(L M:List Lk):ku (L++M)=ku L++ku M:=by simp[ku]
theorem MU(L:List Lk)(k:Nat)(hk:k<L.length):(ku L)[k*3]?=some (.int .i64 (L[k].1:Int))/\(ku L)[k*3+1]?=some (.int .i64 (L[k].2.1:Int))/\(ku L)[k*3+2]?=some (.string L[k].2.2):=by
 induction L generalizing k with
 | nil=>exact absurd hk (by simp)
 | cons f L ih=>
  have e:ku (f::L)=Value.int .i64 (f.1:Int)::Value.int .i64 (f.2.1:Int)::Value.string f.2.2::ku L:=rfl
  cases k with
  | zero=>rw[e];exact⟨rfl,rfl,rfl⟩
  | succ k=>
   have:=ih k (by simpa using hk)
   have e1:(k+1)*3=k*3+1+1+1:=by omega
   rw[e,e1]
   exact this
def gD(w:World)(B:Nat)(v:Value)(L:List Lk):Prop:=w.ownsRow B 84 3 v L.length (ku L)
theorem Tryz.infoLnk:(prog.info? 84).map (fun i=>(i.zero,i.size,i.bytes))=some (some (.agg #[.int .i64 0,.int .i64 0,.string ⟨#[]⟩]),3,32):=by kernel_rfl
theorem gD.nil(w:World)(B:Nat):gD w B (.slice none 0 0) []:=aar _ _ _ _
theorem gD.below{w w':World}{B C:Nat}{v:Value}{L:List Lk}(h:gD w B v L)(hb:Below C w w')(hC:w.heap.size<=C):gD w' B v L:=by
 obtain⟨h1,h2⟩:=h
 refine⟨h1,?_⟩
 rcases h2 with h2|⟨g,cap,cur,a,b,c,d⟩
 ·exact .inl h2
 ·refine .inr ⟨g,cap,cur,a,b,?_,d⟩
  rw[hb.block g ?_]
  ·exact c
  ·have:=(GL.1 c).1
   omega
theorem gD.kept{w w':World}{B b:Nat}{v:Value}{L:List Lk}(h:gD w B v L)(hg:w.grownBy w' (some b))(hb:b<B):gD w' B v L:=by
 obtain⟨h1,h2⟩:=h
 refine⟨h1,?_⟩
 rcases h2 with h2|⟨g,cap,cur,a,hBg,c,d⟩
 ·exact .inl h2
 ·refine .inr ⟨g,cap,cur,a,hBg,?_,d⟩
  rw[hg.block g (GL.1 c).1 (by simp;omega)]
  exact c
theorem gD.mono{w:World}{B B':Nat}{v:Value}{L:List Lk}(h:gD w B v L)(hB:B'<=B):gD w B' v L:=by
 obtain⟨h1,h2⟩:=h
 refine⟨h1,?_⟩
 rcases h2 with h2|⟨g,cap,cur,a,b,c⟩
 ·exact .inl h2
 ·exact .inr ⟨g,cap,cur,a,Xu hB b,c⟩
theorem gD.shape{w:World}{B:Nat}{v:Value}{L:List Lk}(h:gD w B v L):
  (v=.slice none 0 0/\L=[])\/∃g cap,v=.slice (some ⟨g,0,none⟩) L.length cap/\B<=g/\g<w.heap.size/\L.length<=cap:=by
 rcases h.2 with⟨a,b⟩|⟨g,cap,cur,a,b,c,d,e,_⟩
 ·exact .inl ⟨a,List.eq_nil_of_length_eq_zero b⟩
 ·exact .inr ⟨g,cap,a,b,(GL.1 c).1,d⟩
theorem gD.len{w:World}{B:Nat}{v:Value}{L:List Lk}(h:gD w B v L):∃A cap,v=.slice A L.length cap/\L.length<=cap:=by
 rcases h.shape with⟨rfl,rfl⟩|⟨g,cap,rfl,_,_,hc⟩
 ·exact⟨_,_,rfl,VQ _⟩
 ·exact⟨_,_,rfl,hc⟩
theorem gD.cell{w:World}{B g cap n:Nat}{L:List Lk}(h:gD w B (.slice (some ⟨g,0,none⟩) n cap) L)(k:Nat)(hk:k<L.length):w.cell? ⟨g,k*3,none⟩=some (.int .i64 (L[k].1:Int))/\w.cell? ⟨g,k*3+1,none⟩=some (.int .i64 (L[k].2.1:Int))/\w.cell? ⟨g,k*3+2,none⟩=some (.string L[k].2.2):=by
 have hn:n=L.length:=by
  rcases h.2 with⟨a,_⟩|⟨g',cap',cur,a,_⟩
  ·cases a
  ·simp only[Value.slice.injEq]at a;exact a.2.1
 subst hn
 have h':w.ownsRow B 84 3 (.slice (some ⟨g,0,none⟩) L.length cap) L.length (ku L):=h
 have hg:=MU L k hk
 exact⟨(World.ownsRow.cellAt h' (k*3) (by omega)).trans hg.1,(World.ownsRow.cellAt h' (k*3+1) (by omega)).trans hg.2.1,(World.ownsRow.cellAt h' (k*3+2) (by omega)).trans hg.2.2⟩
theorem VF{o:Oper}{a:Act}{K:Act->World->Prop}{Q:Exit->Act->World->Prop}(W w0:World)(s x:Operand)(ho:o.op=.call { callee:=.builtin .append,args:=#[s,x],argTypes:=#[81,81] })
  (B:Nat) (v:Value) (L:List Lk) (hs:a.eval s=v) (hown:gD W B v L) (b c:Nat) (f:Lk) (hx:a.eval x=.slice (some ⟨b,0,none⟩) 1 c) (h0:W.cell? ⟨b,0,none⟩=some (.int .i64 (f.1:Int))) (h1:W.cell? ⟨b,1,none⟩=some (.int .i64 (f.2.1:Int))) (h2:W.cell? ⟨b,2,none⟩=some (.string f.2.2)) (hl:L.length+1<=1000000000) (hB:B<=W.heap.size) (hb:Below B w0 W)
  (h:∀v' w',gD w' B v' (L++[f])->Below B w0 w'->K (a.put o.dst v') w'):o.wp prog a W K Q:=by
 obtain⟨i0,hi,hz0,hz1,hz2⟩:=info_parts Tryz.infoLnk
 refine wp_append_own W s x 81 ho B 84 i0 (.agg #[.int .i64 0,.int .i64 0,.string ⟨#[]⟩]) 3 32 underlying81 hi hz0 hz1 hz2 rfl (by decide) v L.length (ku L) hs hown ⟨b,0,none⟩ 1 c (ku [f]) hx rfl ?_ ?_ (by unfold maxLen;omega) (by omega) hB ?_
 ·intro j u hj
  have hjl:j<3:=(aaf.1 hj).1
  rw[Addr.add_lit,Nat.zero_add]
  match j,hjl,hj with
  | 0,_,hj=>rw[h0];exact hj
  | 1,_,hj=>rw[h1];exact hj
  | 2,_,hj=>rw[h2];exact hj
 ·intro u hu
  have:u=.int .i64 (f.1:Int)\/u=.int .i64 (f.2.1:Int)\/u=.string f.2.2:=by simpa[ku]using hu
  rcases this with rfl|rfl|rfl<;>rfl
 ·intro v' w' h2 h3 _
  refine h v' w' ?_ (hb.grown h3 hB (fun k hk=>(World.ownsRow.lt hown k hk).1))
  unfold gD
  rw[aag,D7]
  exact h2
theorem Q8{ops:Array Oper}{o:Oper}{a:Act}{K:Act->World->Prop}{Q:Exit->Act->World->Prop}{E:Prop}(W w0:World)(hgd:o.guard=none)(s x:Operand)(ho:o.op=.call { callee:=.builtin .append,args:=#[s,x],argTypes:=#[81,81] })
  (B:Nat) (v:Value) (L:List Lk) (hs:a.eval s=v) (hown:gD W B v L) (b c:Nat) (f:Lk) (hx:a.eval x=.slice (some ⟨b,0,none⟩) 1 c) (h0:W.cell? ⟨b,0,none⟩=some (.int .i64 (f.1:Int))) (h1:W.cell? ⟨b,1,none⟩=some (.int .i64 (f.2.1:Int))) (h2:W.cell? ⟨b,2,none⟩=some (.string f.2.2)) (hl:L.length+1<=1000000000) (hB:B<=W.heap.size) (hb:Below B w0 W)
  (h:∀v' w',gD w' B v' (L++[f])->Below B w0 w'->K (a.put o.dst v') w'):if Region.wanted o (yielded ops a.tmps)=true then Oper.wp prog o a W K Q else E:=by
 have hw:Region.wanted o (yielded ops a.tmps)=true:=by simp[Region.wanted,hgd]
 rw[if_pos hw]
 exact VF W w0 s x ho B v L hs hown b c f hx h0 h1 h2 hl hB hb h
theorem aY{w w':World}{b:Nat}(hg:w.grownBy w' (some b))(hb:b<=w.heap.size):Below b w w':=by
 exact⟨hg.os,hg.tape,hg.output,hg.size,fun i hi=>hg.block i (by omega) (by simp;omega)⟩
end Go.Proofs.YtkldkhdigkpniaaGreatDoor
