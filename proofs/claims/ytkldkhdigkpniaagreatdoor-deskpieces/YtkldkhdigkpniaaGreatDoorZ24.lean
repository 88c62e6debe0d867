import Derived.Test.YtkldkhdigkpniaaGreatDoorZ23
import Derived.Test.YtkldkhdigkpniaaGreatDoorZ22
import Derived.Deep.QuietTactic
set_option maxHeartbeats 1600000
set_option maxRecDepth 100000
open Bool renaming eq_iff_iff → GL
open List renaming all_cons → VQ, all_append → Ws, all_nil → Xu, take_of_length_le → ZV, length_cons → ZW
namespace Go.Proofs.YtkldkhdigkpniaaGreatDoor
open Go.RowKit Go.Proofs.Tryz
abbrev jr(v0 v1 v2 v3:Value):Obj:=.cells #[v0,v1,v2,v3] 92
theorem KD{w:World}{b:Nat}{v0 v1:Value}{t:TypeId}(h:w.heap[b]?=some (.cells #[v0,v1] t (0,0))):w.cell? ⟨b,0,none⟩=some v0/\w.cell? ⟨b,1,none⟩=some v1/\∀i,w.frozen? ⟨b,i,none⟩=false:=
 ⟨by simp[World.cell?,h],by simp[World.cell?,h],fun i=>by simp[World.frozen?,h]⟩
def InP(W w':World):Prop:=Below W.heap.size W w'
theorem InP.step{W w1 w2:World}(h:InP W w1)(hb:Below w1.heap.size w1 w2):InP W w2:=Below.trans h (hb.mono (Below.size h))
theorem InP.draw(W:World):InP W { W with drawn:=W.drawn+1 }:=(Below.refl W.heap.size W).drew
theorem InP.blk{W w':World}(h:InP W w'){b:Nat}{o:Obj}(ho:W.heap[b]?=some o):w'.heap[b]?=some o:=(Below.block h b (Array.getElem?_eq_some_iff.1 ho).1).trans ho
theorem InP.cell{W w':World}(h:InP W w'){p:Addr}{v:Value}(ho:W.cell? p=some v):w'.cell? p=some v:=(Below.cell h (p:=p) (World.block_lt_of_cell? W _ ho)).trans ho
def kz(s:ByteArray):ByteArray:=⟨(ah s.data.toList).toArray⟩
theorem oo(s:ByteArray):(kz s).data.toList=ah s.data.toList:=by simp[kz]
abbrev rY(n v:ByteArray):Obj:=.cells #[.string n,.string v] 147
theorem I4(n v:ByteArray)(w:World)(hn:n.size<=1000000)(hN:j6 w)(q:Bool)(hq:decide (ah n.data.toList=xH)=q):
  Calls prog 245 #[.agg #[.string n,.string v],.int .i64 1] w fun e w'=>e=.returned (.bool q)/\Below w.heap.size w w':=by
 have hb0:=aD w (rY n v)
 have hk:=bG w (rY n v)
 have hN1:=hN.below hb0 hN.lt
 have HE:((kz n).toList==(kz jO).toList)=q:=by
  rw[ByteArray.toList_eq,ByteArray.toList_eq,oo,oo,show ah jO.data.toList=xH by decide,<-hq,GL,beq_iff_eq,decide_eq_true_eq]
 have hc0:∀w',InP (w.alloc (rY n v)) w'->w'.cell? ⟨w.heap.size,0,none⟩=some (.string n):=fun w' hw'=>(KD (InP.blk hw' hk)).1
 have hc1:∀w',InP (w.alloc (rY n v)) w'->w'.cell? ⟨3,1,none⟩=some (.string jO):=fun w' hw'=>InP.cell hw' hN1.c1
 clear hN hN1 hk hq
 generalize hA:kz n=A at HE
 generalize hB:kz jO=B at HE
 have hA':Box (kz n=A):=⟨hA⟩
 have hB':Box (kz jO=B):=⟨hB⟩
 clear hA hB
 go_enter func245,ntmps245
 go_wp2
 refine wp_region_quiet (C:=InP (w.alloc (rY n v))) (by kernel_rfl) (by kernel_rfl) (InP.draw _) ?_
 refine bR rfl (.pointer (some ⟨w.heap.size,0,none⟩)) (fun w' hw'=>bO (by go_simp)) ?_
 go_simp
 refine bR rfl (.string n) (fun w' hw'=>bO (by have:=hc0 w' hw';go_simp)) ?_
 go_simp
 refine bR rfl (.string A) (fun w' hw'=>jk (f:=83) (args:=#[.string n]) (by go_simp) ((mV n w' (by omega)).mono fun e w'' h=>⟨by rw[h.1,<-hA'.o];rfl,InP.step hw' h.2⟩)) ?_
 go_simp
 refine bR rfl (.int .i64 1) (fun w' hw'=>bO (by go_simp)) ?_
 go_simp
 refine bR rfl (.pointer (some ⟨3,1,none⟩)) (fun w' hw'=>bO (by go_simp)) ?_
 go_simp
 refine bR rfl (.string jO) (fun w' hw'=>bO (by have:=hc1 w' hw';go_simp)) ?_
 go_simp
 refine bR rfl (.string B) (fun w' hw'=>jk (f:=83) (args:=#[.string jO]) (by go_simp) ((mV jO w' (by decide)).mono fun e w'' h=>⟨by rw[h.1,<-hB'.o];rfl,InP.step hw' h.2⟩)) ?_
 go_simp
 refine bR rfl (.bool q) (fun w' hw'=>bO (by go_simp)) ?_
 go_simp
 refine bR rfl (.bool q) (fun w' hw'=>bO (by go_simp)) ?_
 go_simp
 refine wpQuiet_nil ?_
 intro w9 hw9
 go_wp2
 go_ret
 exact⟨rfl,hb0.trans (Below.mono hw9 hb0.size)⟩
theorem wJ(n v:ByteArray)(w:World)(hn:n.size<=1000000)(hN:j6 w)(q:Bool)(hq:decide (ah n.data.toList=xH)=q):
  Calls prog 244 #[.agg #[.string n,.string v]] w fun e w'=>e=.returned (.bool q)/\Below w.heap.size w w':=by
 have hb0:=aD w (rY n v)
 have HN:=Box.m (hN.below hb0 hN.lt)
 have HQ:=Box.m hq
 clear hN hq
 go_enter func244,ntmps244
 go_wp2_with fail
 refine(I4 n v _ hn HN.o q HQ.o).mono ?_
 rintro e w1 ⟨rfl,hb1⟩
 go_wp2
 go_ret
 exact⟨rfl,hb0.trans (hb1.mono hb0.size)⟩
theorem MS(n v:ByteArray)(w:World)(hn:n.size<=1000000)(hN:j6 w)(q:Bool)(hq:decide (ah n.data.toList=ctN)=q):
  Calls prog 245 #[.agg #[.string n,.string v],.int .i64 0] w fun e w'=>e=.returned (.bool q)/\Below w.heap.size w w':=by
 have hb0:=aD w (rY n v)
 have hk:=bG w (rY n v)
 have hN1:=hN.below hb0 hN.lt
 have HE:((kz n).toList==(kz ctB).toList)=q:=by
  rw[ByteArray.toList_eq,ByteArray.toList_eq,oo,oo,show ah ctB.data.toList=ctN by decide,<-hq,GL,beq_iff_eq,decide_eq_true_eq]
 have hc0:∀w',InP (w.alloc (rY n v)) w'->w'.cell? ⟨w.heap.size,0,none⟩=some (.string n):=fun w' hw'=>(KD (InP.blk hw' hk)).1
 have hc1:∀w',InP (w.alloc (rY n v)) w'->w'.cell? ⟨3,0,none⟩=some (.string ctB):=fun w' hw'=>InP.cell hw' hN1.c0
 clear hN hN1 hk hq
 generalize hA:kz n=A at HE
 generalize hB:kz ctB=B at HE
 have hA':Box (kz n=A):=⟨hA⟩
 have hB':Box (kz ctB=B):=⟨hB⟩
 clear hA hB
 go_enter func245,ntmps245
 go_wp2
 refine wp_region_quiet (C:=InP (w.alloc (rY n v))) (by kernel_rfl) (by kernel_rfl) (InP.draw _) ?_
 refine bR rfl (.pointer (some ⟨w.heap.size,0,none⟩)) (fun w' hw'=>bO (by go_simp)) ?_
 go_simp
 refine bR rfl (.string n) (fun w' hw'=>bO (by have:=hc0 w' hw';go_simp)) ?_
 go_simp
 refine bR rfl (.string A) (fun w' hw'=>jk (f:=83) (args:=#[.string n]) (by go_simp) ((mV n w' (by omega)).mono fun e w'' h=>⟨by rw[h.1,<-hA'.o];rfl,InP.step hw' h.2⟩)) ?_
 go_simp
 refine bR rfl (.int .i64 0) (fun w' hw'=>bO (by go_simp)) ?_
 go_simp
 refine bR rfl (.pointer (some ⟨3,0,none⟩)) (fun w' hw'=>bO (by go_simp)) ?_
 go_simp
 refine bR rfl (.string ctB) (fun w' hw'=>bO (by have:=hc1 w' hw';go_simp)) ?_
 go_simp
 refine bR rfl (.string B) (fun w' hw'=>jk (f:=83) (args:=#[.string ctB]) (by go_simp) ((mV ctB w' (by decide)).mono fun e w'' h=>⟨by rw[h.1,<-hB'.o];rfl,InP.step hw' h.2⟩)) ?_
 go_simp
 refine bR rfl (.bool q) (fun w' hw'=>bO (by go_simp)) ?_
 go_simp
 refine bR rfl (.bool q) (fun w' hw'=>bO (by go_simp)) ?_
 go_simp
 refine wpQuiet_nil ?_
 intro w9 hw9
 go_wp2
 go_ret
 exact⟨rfl,hb0.trans (Below.mono hw9 hb0.size)⟩
theorem MC(n v:ByteArray)(w:World)(hn:n.size<=1000000)(hN:j6 w)(q:Bool)(hq:decide (ah n.data.toList=ctN)=q):
  Calls prog 264 #[.agg #[.string n,.string v]] w fun e w'=>e=.returned (.bool q)/\Below w.heap.size w w':=by
 have hb0:=aD w (rY n v)
 have HN:=Box.m (hN.below hb0 hN.lt)
 have HQ:=Box.m hq
 clear hN hq
 go_enter func264,ntmps264
 go_wp2_with fail
 refine(MS n v _ hn HN.o q HQ.o).mono ?_
 rintro e w1 ⟨rfl,hb1⟩
 go_wp2
 go_ret
 exact⟨rfl,hb0.trans (hb1.mono hb0.size)⟩
abbrev WX(n v:ByteArray):Obj:=.cells #[.string n,.string v] 125
theorem Ky(n v:ByteArray)(w:World)(q:Bool)(hq:decide (n.data.toList=bdN)=q):
  Calls prog 265 #[.agg #[.string n,.string v]] w fun e w'=>e=.returned (.bool q)/\Below w.heap.size w w':=by
 have hb0:=aD w (WX n v)
 have HE:(n.toList==[98,111,117,110,100,97,114,121])=q:=by
  rw[ByteArray.toList_eq,<-hq,GL,beq_iff_eq,decide_eq_true_eq];rfl
 clear hq
 go_enter func265,ntmps265
 go_wp2
 go_ret
 exact⟨rfl,hb0⟩
def wV(r n:Nat)(e:Ending):Prop:=(r<n/\e=.returned (.int .i64 r))\/(r=n/\e=.returned (.int .i64 (-1)))
def bL(f:Fl):Bool:=decide (ah f.1.data.toList=xH)
def ji(f:Fl):Bool:=decide (ah f.1.data.toList=ctN)
def yL(f:Fl):Bool:=decide (f.1.data.toList=bdN)
theorem ib(p:Fl->Bool)(L:List Fl)(h:L.all p=true):aM p L=L.length:=by
 unfold aM
 induction L with
 | nil=>rfl
 | cons f L ih=>
  simp only[VQ,Bool.and_eq_true]at h
  rw[List.takeWhile_cons,if_pos h.1,ZW,ih h.2,ZW]
theorem zW(v:Value)(L:List Fl)(w:World)(hT:lW L)(hF:FL w v L)(hN:j6 w):
  Calls prog 131 #[v,.func (.func 244) #[] #[]] w fun e w'=>wV (aM (fun f=>!bL f) L) L.length e/\Below w.heap.size w w':=by
 obtain⟨A,cap,rfl,hcap,hcells⟩:=hF
 have HC:=Box.m hcells
 have hlen:=hT.1
 have HT:=Box.m hT
 have HN:=Box.m hN
 obtain⟨R,HR⟩:∃R,Box (R=aM (fun f=>!bL f) L):=⟨_,⟨rfl⟩⟩
 rw[<-HR.o]
 clear hcells hT hN
 go_enter func131,ntmps131
 go_wp2
 go_loopw [8] (fun i wr=>∃k:Nat,k<=L.length/\i=.int .i64 k/\Below w.heap.size w wr/\Box ((L.take k).all (fun f=>!bL f)=true)) (fun i _=>L.length - (intOf i).toNat)
 case atStart=>exact⟨0,Nat.zero_le _,rfl,Below.refl _ _,⟨by simp⟩⟩
 case round=>
  obtain⟨k,hk,rfl,hb,HA⟩:=hrel
  by_cases hlt:k<L.length
  ·obtain⟨b,off,n,v,rfl,HN2,hn,hv,hbl,d0,d1⟩:=HC.o.elem HT.o hb k hlt
   have hcl:Calls prog 244 #[.agg #[.string n,.string v]] wr fun e w'=>e=.returned (.bool (bL (n,v)))/\Below wr.heap.size wr w':=wJ n v wr hn (HN.o.below hb HN.o.lt) _ rfl
   have HCL:=Box.m hcl
   cases hq:bL (n,v)
   ·have HA':Box ((L.take (k+1)).all (fun f=>!bL f)=true):=⟨by
     rw[bV L k _ HN2.o,Ws,HA.o]
     simp only[VQ,Xu,hq];rfl⟩
    rw[hq]at HCL
    clear HC HT HA HN2 hq hcl
    go_wp2_with fail
    refine HCL.o.mono ?_
    rintro e w1 ⟨rfl,hb1⟩
    clear HCL
    go_wp2
    go_roundw
    case rel=>exact⟨k+1,by omega,by go_num,hb.trans (hb1.mono hb.size),HA'⟩
    case measure=>simp[intOf];omega
   ·have HE:Box (R=k):=⟨by rw[HR.o];exact iU _ L k _ HN2.o HA.o (by simp only[hq];rfl)⟩
    rw[hq]at HCL
    clear HC HT HA HN2 hq hcl
    go_wp2_with fail
    refine HCL.o.mono ?_
    rintro e w1 ⟨rfl,hb1⟩
    clear HCL
    go_wp2
    go_ret
    exact⟨by rw[HE.o];exact .inl ⟨hlt,rfl⟩,hb.trans (hb1.mono hb.size)⟩
  ·have HE:Box (R=L.length):=⟨by
    have h1:=HA.o
    rw[ZV (by omega)]at h1
    rw[HR.o];exact ib _ L h1⟩
   clear HC HT HA
   go_wp2
   go_ret
   exact⟨by rw[HE.o];exact .inr ⟨rfl,rfl⟩,hb⟩
theorem Kw(v:Value)(L:List Fl)(w:World)(hT:lW L)(hF:FL w v L)(hN:j6 w):
  Calls prog 131 #[v,.func (.func 264) #[] #[]] w fun e w'=>wV (aM (fun f=>!ji f) L) L.length e/\Below w.heap.size w w':=by
 obtain⟨A,cap,rfl,hcap,hcells⟩:=hF
 have HC:=Box.m hcells
 have hlen:=hT.1
 have HT:=Box.m hT
 have HN:=Box.m hN
 obtain⟨R,HR⟩:∃R,Box (R=aM (fun f=>!ji f) L):=⟨_,⟨rfl⟩⟩
 rw[<-HR.o]
 clear hcells hT hN
 go_enter func131,ntmps131
 go_wp2
 go_loopw [8] (fun i wr=>∃k:Nat,k<=L.length/\i=.int .i64 k/\Below w.heap.size w wr/\Box ((L.take k).all (fun f=>!ji f)=true)) (fun i _=>L.length - (intOf i).toNat)
 case atStart=>exact⟨0,Nat.zero_le _,rfl,Below.refl _ _,⟨by simp⟩⟩
 case round=>
  obtain⟨k,hk,rfl,hb,HA⟩:=hrel
  by_cases hlt:k<L.length
  ·obtain⟨b,off,n,v,rfl,HN2,hn,hv,hbl,d0,d1⟩:=HC.o.elem HT.o hb k hlt
   have hcl:Calls prog 264 #[.agg #[.string n,.string v]] wr fun e w'=>e=.returned (.bool (ji (n,v)))/\Below wr.heap.size wr w':=MC n v wr hn (HN.o.below hb HN.o.lt) _ rfl
   have HCL:=Box.m hcl
   cases hq:ji (n,v)
   ·have HA':Box ((L.take (k+1)).all (fun f=>!ji f)=true):=⟨by
     rw[bV L k _ HN2.o,Ws,HA.o]
     simp only[VQ,Xu,hq];rfl⟩
    rw[hq]at HCL
    clear HC HT HA HN2 hq hcl
    go_wp2_with fail
    refine HCL.o.mono ?_
    rintro e w1 ⟨rfl,hb1⟩
    clear HCL
    go_wp2
    go_roundw
    case rel=>exact⟨k+1,by omega,by go_num,hb.trans (hb1.mono hb.size),HA'⟩
    case measure=>simp[intOf];omega
   ·have HE:Box (R=k):=⟨by rw[HR.o];exact iU _ L k _ HN2.o HA.o (by simp only[hq];rfl)⟩
    rw[hq]at HCL
    clear HC HT HA HN2 hq hcl
    go_wp2_with fail
    refine HCL.o.mono ?_
    rintro e w1 ⟨rfl,hb1⟩
    clear HCL
    go_wp2
    go_ret
    exact⟨by rw[HE.o];exact .inl ⟨hlt,rfl⟩,hb.trans (hb1.mono hb.size)⟩
  ·have HE:Box (R=L.length):=⟨by
    have h1:=HA.o
    rw[ZV (by omega)]at h1
    rw[HR.o];exact ib _ L h1⟩
   clear HC HT HA
   go_wp2
   go_ret
   exact⟨by rw[HE.o];exact .inr ⟨rfl,rfl⟩,hb⟩
theorem Hy(v:Value)(L:List Fl)(w:World)(hT:lW L)(hF:FL w v L):
  Calls prog 194 #[v,.func (.func 265) #[] #[]] w fun e w'=>wV (aM (fun f=>!yL f) L) L.length e/\Below w.heap.size w w':=by
 obtain⟨A,cap,rfl,hcap,hcells⟩:=hF
 have HC:=Box.m hcells
 have hlen:=hT.1
 have HT:=Box.m hT
 obtain⟨R,HR⟩:∃R,Box (R=aM (fun f=>!yL f) L):=⟨_,⟨rfl⟩⟩
 rw[<-HR.o]
 clear hcells hT
 go_enter func194,ntmps194
 go_wp2
 go_loopw [8] (fun i wr=>∃k:Nat,k<=L.length/\i=.int .i64 k/\Below w.heap.size w wr/\Box ((L.take k).all (fun f=>!yL f)=true)) (fun i _=>L.length - (intOf i).toNat)
 case atStart=>exact⟨0,Nat.zero_le _,rfl,Below.refl _ _,⟨by simp⟩⟩
 case round=>
  obtain⟨k,hk,rfl,hb,HA⟩:=hrel
  by_cases hlt:k<L.length
  ·obtain⟨b,off,n,v,rfl,HN2,hn,hv,hbl,d0,d1⟩:=HC.o.elem HT.o hb k hlt
   have hcl:Calls prog 265 #[.agg #[.string n,.string v]] wr fun e w'=>e=.returned (.bool (yL (n,v)))/\Below wr.heap.size wr w':=Ky n v wr _ rfl
   have HCL:=Box.m hcl
   cases hq:yL (n,v)
   ·have HA':Box ((L.take (k+1)).all (fun f=>!yL f)=true):=⟨by
     rw[bV L k _ HN2.o,Ws,HA.o]
     simp only[VQ,Xu,hq];rfl⟩
    rw[hq]at HCL
    clear HC HT HA HN2 hq hcl
    go_wp2_with fail
    refine HCL.o.mono ?_
    rintro e w1 ⟨rfl,hb1⟩
    clear HCL
    go_wp2
    go_roundw
    case rel=>exact⟨k+1,by omega,by go_num,hb.trans (hb1.mono hb.size),HA'⟩
    case measure=>simp[intOf];omega
   ·have HE:Box (R=k):=⟨by rw[HR.o];exact iU _ L k _ HN2.o HA.o (by simp only[hq];rfl)⟩
    rw[hq]at HCL
    clear HC HT HA HN2 hq hcl
    go_wp2_with fail
    refine HCL.o.mono ?_
    rintro e w1 ⟨rfl,hb1⟩
    clear HCL
    go_wp2
    go_ret
    exact⟨by rw[HE.o];exact .inl ⟨hlt,rfl⟩,hb.trans (hb1.mono hb.size)⟩
  ·have HE:Box (R=L.length):=⟨by
    have h1:=HA.o
    rw[ZV (by omega)]at h1
    rw[HR.o];exact ib _ L h1⟩
   clear HC HT HA
   go_wp2
   go_ret
   exact⟨by rw[HE.o];exact .inr ⟨rfl,rfl⟩,hb⟩
end Go.Proofs.YtkldkhdigkpniaaGreatDoor
