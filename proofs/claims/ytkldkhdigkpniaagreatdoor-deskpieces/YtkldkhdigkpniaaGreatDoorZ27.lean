import Derived.Test.YtkldkhdigkpniaaGreatDoorZ23
import Derived.Test.YtkldkhdigkpniaaGreatDoorZ22
import Derived.Test.YtkldkhdigkpniaaGreatDoorZ10
set_option maxHeartbeats 4000000
set_option maxRecDepth 100000
open ByteArray renaming data_append → GL, size_append → VQ
open List renaming getElem_mem → Ws, findIdx?_eq_none_iff → Xu, mem_iff_getElem → ZV, length_take → ZW
open Nat renaming le_trans → ZX, zero_le → ZY
open Go.World renaming block_lt_of_cell? → ZZ
namespace Go.Proofs.YtkldkhdigkpniaaGreatDoor
open Go.RowKit Go.Proofs.Tryz
def Zc:ByteArray:=⟨#[67,111,110,116,101,110,116,45,84,121,112,101]⟩
def ZE:ByteArray:=⟨#[67,111,110,116,101,110,116,45,76,111,99,97,116,105,111,110]⟩
def QS:ByteArray:=⟨#[67,111,110,116,101,110,116,45,73,68]⟩
theorem CW:ah Zc.data.toList=ctN:=by decide +kernel
theorem NF:ah ZE.data.toList=clN:=by decide +kernel
theorem BZ:ah QS.data.toList=ciN:=by decide +kernel
def Hd(L:List Fl):Prop:=L.length<=100000/\∀f∈L,f.1.size<=60000/\f.2.size<=60000
theorem Hd.half{L:List Fl}(h:Hd L):uW L:=⟨h.1,fun f hf=>by have:=h.2 f hf;omega⟩
theorem Du(v:Value)(L:List Fl)(s:ByteArray)(n:aa)(hn:ah s.data.toList=n)(w:World)(hs:s.size<=1000000)(hT:Hd L)(hF:FL w v L):
  Calls prog 163 #[v,.string s] w fun e w'=>∃(t:ByteArray) (q:Bool),e=.returned (.tuple #[.string t,.bool q])/\t.data.toList=jG (L.map fl2) n/\t.size<=60000/\Below w.heap.size w w':=by
 refine(GR v L s w hs hT.half.tiny hF).mono ?_
 rintro e w' ⟨rfl,hb⟩
 have hg:=uL L s.data.toList
 rw[hn]at hg
 unfold jG
 rw[hg]
 cases hq:xu L s.data.toList with
 | none=>exact⟨⟨#[]⟩,false,rfl,rfl,by decide,hb⟩
 | some f=>
  have hm:f∈L:=List.mem_of_find?_eq_some hq
  exact⟨f.2,true,rfl,rfl,(hT.2 f hm).2,hb⟩
def VK(K:aa×List PB)(B:Nat)(e:Ending)(w':World):Prop:=∃(m:ByteArray) (v:Value) (P:List Fl),e=.returned (.tuple #[.string m,v])/\m.data.toList=K.1/\P.map pb2=K.2/\gu w' B v P/\Hd P/\m.size<=60000
theorem wQ(v:Value)(L:List Fl)(w:World)(hT:Hd L)(hF:FL w v L)(hm:Max w):
  Calls prog 97 #[v] w fun e w'=>VK (iH (L.map fl2)) w.heap.size e w'/\Below w.heap.size w w':=by
 obtain⟨A,cap,hv,hcap,hcell⟩:=id hF
 subst hv
 have HF:=Box.m hF
 have HT:=Box.m hT
 have HM:=Box.m hm
 clear hF hT hm hcell
 obtain⟨K,HK⟩:∃K,Box (iH (L.map fl2)=K):=⟨_,⟨rfl⟩⟩
 rw[HK.o]
 go_enter func97,ntmps97
 go_wp2_with fail
 refine(Du _ L Zc ctN CW _ (by decide) HT.o HF.o).mono ?_
 rintro e w1 ⟨t,q,rfl,ht,hts,hb1⟩
 have HT1:=Box.m ht
 have HM1:=Box.m (HM.o.below hb1 HM.o.1)
 clear ht
 go_wp2_with fail
 refine(uJ t _ (by omega) HM1.o).mono ?_
 rintro e w2 ⟨hR,hb2⟩
 have hb02:=hb1.trans (hb2.mono hb1.size)
 cases hk:eO t.data.toList with
 | none=>
  rw[hk]at hR
  have hR:e=_:=hR
  subst hR
  have HKn:Box (K=([],[])):=⟨by rw[<-HK.o];unfold iH;rw[<-HT1.o,hk];rfl⟩
  clear hk HK
  go_wp2
  go_ret2
  rw[HKn.o]
  exact⟨⟨_,_,[],rfl,rfl,rfl,gu.nil _ _,⟨by decide,fun f hf=>by cases hf⟩,by decide⟩,hb02⟩
 | some kq=>
  rw[hk]at hR
  obtain⟨m,v2,P,rfl,hm2,hO2,hP2,hs1,hs2,hs3⟩:=hR
  have HKs:Box (K=kq):=⟨by rw[<-HK.o];unfold iH;rw[<-HT1.o,hk];rfl⟩
  have HP:Box (VK K w.heap.size (.returned (.tuple #[.string m,v2])) w2):=⟨by
   rw[HKs.o]
   exact⟨m,v2,P,rfl,hm2,hP2,hO2.mono hb1.size,⟨by omega,fun f hf=>by have:=hs3 f hf;omega⟩,by omega⟩⟩
  clear hk HK hO2 hm2 hP2 HKs hs3
  go_wp2
  go_ret2
  exact⟨HP.o,hb02⟩
theorem wE(s:ByteArray)(w:World)(hs:s.size<=1000000):
  Calls prog 130 #[.string s] w fun e w'=>∃t:ByteArray,e=.returned (.string t)/\t.data.toList=cK s.data.toList/\t.size=s.size+2/\w'=w:=by
 go_enter func130,ntmps130
 go_wp2
 go_ret
 refine⟨_,rfl,?_,?_,rfl⟩
 ·rw[GL,Array.toList_append,GL,Array.toList_append];rfl
 ·rw[VQ,VQ];show 1+s.size+1=_;omega
theorem TM(v:Value)(L:List Fl)(w:World)(hT:Hd L)(hF:FL w v L):
  Calls prog 101 #[v] w fun e w'=>∃t:ByteArray,e=.returned (.string t)/\t.data.toList=Bg (jG (L.map fl2) ciN)/\t.size<=60000/\Below w.heap.size w w':=by
 obtain⟨A,cap,hv,hcap,hcell⟩:=id hF
 subst hv
 have HF:=Box.m hF
 have HT:=Box.m hT
 clear hF hT hcell
 obtain⟨ID,HID⟩:∃ID,Box (Bg (jG (L.map fl2) ciN)=ID):=⟨_,⟨rfl⟩⟩
 rw[HID.o]
 go_enter func101,ntmps101
 go_wp2_with fail
 refine(Du _ L QS ciN BZ _ (by decide) HT.o HF.o).mono ?_
 rintro e w1 ⟨t,q,rfl,ht,hts,hb1⟩
 have HT1:=Box.m ht
 clear ht
 rw[<-HT1.o]at HID
 obtain⟨r,HR⟩:∃r:ByteArray,Box (r=⟨(Lib.trimPrefix t.data.toList [60]).toArray⟩):=⟨_,⟨rfl⟩⟩
 obtain⟨b1,HB1⟩:∃b1,Box (Lib.hasPrefix t.data.toList [60]=b1):=⟨_,⟨rfl⟩⟩
 have hrl:r.size<=t.size:=by
  rw[HR.o,gm,<-ae t]
  unfold Lib.trimPrefix
  split
  ·rw[List.length_drop];omega
  ·exact Nat.le_refl _
 obtain⟨r2,HR2⟩:∃r2:ByteArray,Box (r2=⟨(Lib.trimSuffix r.data.toList [62]).toArray⟩):=⟨_,⟨rfl⟩⟩
 obtain⟨b2,HB2⟩:∃b2,Box (Lib.hasSuffix r.data.toList [62]=b2):=⟨_,⟨rfl⟩⟩
 have HA1:Box (∀w,Calls prog 87 #[.string t,.string ⟨#[60]⟩] w fun e w'=>e=.returned (.tuple #[.string r,.bool b1])/\w'=w):=⟨fun w=>by
  rw[HR.o,<-HB1.o];exact Tryz.strings_CutPrefix t ⟨#[60]⟩ w⟩
 have HA2:Box (∀w,Calls prog 111 #[.string r,.string ⟨#[62]⟩] w fun e w'=>e=.returned (.tuple #[.string r2,.bool b2])/\w'=w):=⟨fun w=>by
  rw[HR2.o,<-HB2.o];exact Go.Proofs.Sx.Tryz.strings_CutSuffix r ⟨#[62]⟩ w (by omega)⟩
 have HE:Box (ID=if b1&&b2 then r2.data.toList else []):=⟨by
  rw[<-HID.o,<-HB1.o,<-HB2.o,HR2.o,HR.o]
  cases hl:t.data.toList with
  | nil=>rfl
  | cons c x=>
   rw[Bg]
   by_cases hc:c=60
   ·subst hc
    have e1:Lib.hasPrefix (60::x) [60]=true:=by simp[Lib.hasPrefix,List.isPrefixOf]
    have e2:Lib.trimPrefix (60::x) [60]=x:=by unfold Lib.trimPrefix;rw[if_pos e1];rfl
    rw[e1,e2]
    simp only[true_and,Bool.true_and]
    have e3:Lib.hasSuffix x [62]=decide (x.getLast?=some 62):=by
     unfold Lib.hasSuffix
     rw[Bool.eq_iff_iff,decide_eq_true_eq,List.isSuffixOf_iff_suffix]
     constructor
     ·rintro⟨y,rfl⟩;simp
     ·intro h
      obtain⟨y,rfl⟩:=List.getLast?_eq_some_iff.1 h
      exact⟨y,rfl⟩
    rw[e3]
    by_cases hg:x.getLast?=some 62
    ·rw[if_pos hg,decide_eq_true hg,if_pos rfl]
     unfold Lib.trimSuffix
     rw[e3,decide_eq_true hg,if_pos rfl,List.dropLast_eq_take]
     rfl
    ·rw[if_neg hg,decide_eq_false hg,if_neg (by simp)]
   ·have e1:Lib.hasPrefix (c::x) [60]=false:=by
     simp only[Lib.hasPrefix,List.isPrefixOf,Bool.and_true,beq_eq_false_iff_ne]
     exact fun e=>hc e.symm
    rw[if_neg (fun h:c=60/\x.getLast?=some 62=>hc h.1),e1]
    rfl⟩
 have hr2:r2.size<=60000:=by
  rw[HR2.o,gm]
  unfold Lib.trimSuffix
  split
  ·rw[ZW,ae];omega
  ·rw[ae];omega
 clear HR HR2 HB1 HB2 HID
 cases b1<;>cases b2
 all_goals
  go_wp2_with (first
   | (go_at_call 87;refine(HA1.o _).mono ?_;rintro e w6 ⟨rfl,rfl⟩)
   | (go_at_call 111;refine(HA2.o _).mono ?_;rintro e w7 ⟨rfl,rfl⟩))
  go_ret
  rw[HE.o]
 ·exact⟨_,rfl,rfl,by decide,hb1⟩
 ·exact⟨_,rfl,rfl,by decide,hb1⟩
 ·exact⟨_,rfl,rfl,by decide,hb1⟩
 ·exact⟨_,rfl,rfl,hr2,hb1⟩
theorem I7(l:aa):(rJ l).ab=(bM l).getD eZ:=by
 unfold rJ
 cases bM l with
 | none=>rfl
 | some a=>exact nS a
theorem UO(base:AV)(L:List Fl):AV.of (dJ base.ab (L.map fl2))=rF (qw base (rJ (jG (L.map fl2) clN))):=by
 refine BX ?_
 rw[nS,Fj,qW,I7]
 rfl
theorem az{W w':World}{k:Nat}{o:Obj}(hb:Below W.heap.size W w')(h:W.heap[k]?=some o):w'.heap[k]?=some o:=(hb.block k (Array.getElem?_eq_some_iff.1 h).1).trans h
theorem zD(v:Value)(L:List Fl)(base:AV)(w:World)(hT:Hd L)(hF:FL w v L)(hm:Max w)(n:Nat)(hb:base.Small n)(hn1:60000<=n)(hn2:n<=130000):
  Calls prog 100 #[v,base.val] w fun e w'=>e=.returned (AV.of (dJ base.ab (L.map fl2))).val/\(AV.of (dJ base.ab (L.map fl2))).Small (2*n+1)/\Below w.heap.size w w':=by
 rw[UO]
 obtain⟨R,HR⟩:∃R,Box (rF (qw base (rJ (jG (L.map fl2) clN)))=R):=⟨_,⟨rfl⟩⟩
 rw[HR.o]
 obtain⟨A,cap,hv,hcap,hcell⟩:=id hF
 subst hv
 have hw0:=hm.1
 obtain⟨b0,b1,b2,b3,b4,b5,b6,b7⟩:=base
 have hW0:Below w.heap.size w ((w.alloc (ko b0 b1 b2 b3 b4 b5 b6 b7)).alloc sW):=(ag.alloc af _).alloc (by simp) _
 have HF:=Box.m (hF.below hW0 af)
 have HT:=Box.m hT
 have HM:=Box.m hm
 have HB:=Box.m hb
 have hh:=xD w (ko b0 b1 b2 b3 b4 b5 b6 b7) sW
 clear hF hT hm hcell hb
 go_enter func100,ntmps100
 go_wp2_with fail
 refine(Du _ L ZE clN NF _ (by decide) HT.o HF.o).mono ?_
 rintro e w1 ⟨t,q,rfl,ht,hts,hb1⟩
 have hb01:=hW0.trans (hb1.mono hW0.size)
 have HM1:=Box.m (HM.o.below hb01 hw0)
 rw[<-ht]at HR
 clear ht
 go_wp2_with fail
 refine(xe t _ (by omega) HM1.o).mono ?_
 rintro e w2 ⟨rfl,hs2,hb2⟩
 generalize rJ t.data.toList=a at hs2 HR ⊢
 generalize MW t.data.toList=er at ⊢
 obtain⟨a0,a1,a2,a3,a4,a5,a6,a7⟩:=a
 have hb12:=hb1.trans (hb2.mono hb1.size)
 have hb02:=hb01.trans (hb2.mono hb01.size)
 have hbA:Below w2.heap.size w2 (w2.alloc (ko a0 a1 a2 a3 a4 a5 a6 a7)):=ag.alloc af _
 have hb13:=hb12.trans (hbA.mono hb12.size)
 have hb03:=hb02.trans (hbA.mono hb02.size)
 obtain⟨x0,x1,x2,x3,x4,x5,x6,x7,xf⟩:=dU (az hb13 hh.1)
 have hy:=az hb13 hh.2
 have HM3:=Box.m (HM.o.below hb03 hw0)
 have hsb:=HB.o.pa
 have hsa:a3.size<=60000:=ZX hs2.pa hts
 have HS2:Box (AV.Small ⟨a0,a1,a2,a3,a4,a5,a6,a7⟩ n):=⟨⟨ZX hs2.sc (by omega),ZX hs2.au (by omega),ZX hs2.pa (by omega),ZX hs2.qu (by omega),ZX hs2.fr (by omega)⟩⟩
 clear hs2
 go_wp2_with fail
 refine(Bo ⟨b0,b1,b2,b3,b4,b5,b6,b7⟩ ⟨a0,a1,a2,a3,a4,a5,a6,a7⟩ _ (by show b3.size<=_;have:b3.size<=n:=hsb;omega) (by show a3.size<=_;omega) HM3.o).mono ?_
 rintro e w4 ⟨rfl,hb4⟩
 have hrs:=nV HB.o HS2.o
 have HRs:Box (rF (qw ⟨b0,b1,b2,b3,b4,b5,b6,b7⟩ ⟨a0,a1,a2,a3,a4,a5,a6,a7⟩)=R):=⟨HR.o⟩
 generalize qw ⟨b0,b1,b2,b3,b4,b5,b6,b7⟩ ⟨a0,a1,a2,a3,a4,a5,a6,a7⟩=r at hrs HRs ⊢
 have hb04:=hb03.trans (hb4.mono hb03.size)
 have hy4:=az hb4 hy
 clear hy HR hb01 hb02 hb12 hb13 hb1 hb2
 go_wp2_with fail
 refine(Dm r _ ⟨ZX hrs.sc (by omega),ZX hrs.au (by omega),ZX hrs.pa (by omega),ZX hrs.qu (by omega),ZX hrs.fr (by omega)⟩).mono ?_
 rintro e w5 ⟨rfl,hb5⟩
 have hws:=G7 hrs
 rw[HRs.o]at hws ⊢
 have hb05:=hb04.trans (hb5.mono hb04.size)
 obtain⟨y0,y1,y2,y3,y4,y5,y6,y7,yf⟩:=dU (az hb5 hy4)
 obtain⟨r0,r1,r2,r3,r4,r5,r6,r7⟩:=R
 clear hy4 hb4 hb5 hrs HRs
 go_wp2
 refine bodyPost_ret (v:=ma r0 r1 r2 r3 r4 r5 r6 r7) (by simp[results,results100,go_sem,y0,y1,y2,y3,y4,y5,y6,y7]) rfl ⟨rfl,⟨ZX hws.sc (by omega),ZX hws.au (by omega),ZX hws.pa (by omega),ZX hws.qu (by omega),ZX hws.fr (by omega)⟩,?_⟩
 iterate 8 (refine Below.setCell ?_ (by simp<;>omega) _)
 exact hb05
structure XP where
 hd:Value
 fs:List Fl
 bd:ByteArray
 id:ByteArray
 loc:AV
def XP.bp(p:XP):BP:=⟨p.fs.map fl2,p.bd.data.toList,p.id.data.toList,p.loc.ab⟩
abbrev XP.val(p:XP):Value:=.agg #[p.hd,.string p.bd,.string p.id,.string p.loc.sc,.bool p.loc.hA,.string p.loc.au,.string p.loc.pa,.bool p.loc.hQ,.string p.loc.qu,.bool p.loc.hF,.string p.loc.fr]
structure XC(w:World)(g o:Nat)(p:XP):Prop where
 c0:w.cell? ⟨g,o,none⟩=some p.hd
 c1:w.cell? ⟨g,o+1,none⟩=some (.string p.bd)
 c2:w.cell? ⟨g,o+2,none⟩=some (.string p.id)
 c3:w.cell? ⟨g,o+3,none⟩=some (.string p.loc.sc)
 c4:w.cell? ⟨g,o+4,none⟩=some (.bool p.loc.hA)
 c5:w.cell? ⟨g,o+5,none⟩=some (.string p.loc.au)
 c6:w.cell? ⟨g,o+6,none⟩=some (.string p.loc.pa)
 c7:w.cell? ⟨g,o+7,none⟩=some (.bool p.loc.hQ)
 c8:w.cell? ⟨g,o+8,none⟩=some (.string p.loc.qu)
 c9:w.cell? ⟨g,o+9,none⟩=some (.bool p.loc.hF)
 ca:w.cell? ⟨g,o+10,none⟩=some (.string p.loc.fr)
theorem XC.below{w w':World}{g o:Nat}{p:XP}(h:XC w g o p)(hb:Below w.heap.size w w'):XC w' g o p:=by
 have key:∀(i:Nat) (v:Value),w.cell? ⟨g,i,none⟩=some v->w'.cell? ⟨g,i,none⟩=some v:=fun i v hv=>(hb.cell (p:=⟨g,i,none⟩) (ZZ w _ hv)).trans hv
 exact⟨key _ _ h.c0,key _ _ h.c1,key _ _ h.c2,key _ _ h.c3,key _ _ h.c4,key _ _ h.c5,key _ _ h.c6,key _ _ h.c7,key _ _ h.c8,key _ _ h.c9,key _ _ h.ca⟩
structure XS(w:World)(p:XP):Prop where
 fl:FL w p.hd p.fs
 hs:Hd p.fs
 bs:p.bd.size<=100000
 is:p.id.size<=60000
 ad:p.loc.Small 270000
theorem XS.below{w w':World}{p:XP}(h:XS w p)(hb:Below w.heap.size w w'):XS w' p:=⟨h.fl.below hb af,h.hs,h.bs,h.is,h.ad⟩
structure XL(w:World)(A:Option Addr)(ps:List XP):Prop where
 at_:∀k (hk:k<ps.length),∃g off,A=some ⟨g,off,none⟩/\XC w g (off+k*11) ps[k]
 sm:∀p∈ps,XS w p
 len:ps.length<=60
theorem XL.below{w w':World}{A:Option Addr}{ps:List XP}(h:XL w A ps)(hb:Below w.heap.size w w'):XL w' A ps:=by
 refine⟨fun k hk=>?_,fun p hp=>(h.sm p hp).below hb,h.len⟩
 obtain⟨g,off,h1,h2⟩:=h.at_ k hk
 exact⟨g,off,h1,h2.below hb⟩
structure BN(w:World)(b:Nat)(hv:Value)(hl:List Fl)(A:Option Addr)(cap:Nat)(ps:List XP)(root:Nat):Prop where
 c0:w.cell? ⟨b,0,none⟩=some hv
 c1:w.cell? ⟨b,1,none⟩=some (.slice A ps.length cap)
 c2:w.cell? ⟨b,2,none⟩=some (.int .i64 (root:Int))
 cap:ps.length<=cap
 hf:FL w hv hl
 hs:Hd hl
 xl:XL w A ps
 rt:root<ps.length
theorem BN.below{w w':World}{b:Nat}{hv:Value}{hl:List Fl}{A:Option Addr}{cap:Nat}{ps:List XP}{root:Nat}(h:BN w b hv hl A cap ps root)(hb:Below w.heap.size w w'):BN w' b hv hl A cap ps root:=by
 have key:∀(i:Nat) (v:Value),w.cell? ⟨b,i,none⟩=some v->w'.cell? ⟨b,i,none⟩=some v:=fun i v hv=>(hb.cell (p:=⟨b,i,none⟩) (ZZ w _ hv)).trans hv
 exact⟨key _ _ h.c0,key _ _ h.c1,key _ _ h.c2,h.cap,h.hf.below hb af,h.hs,h.xl.below hb,h.rt⟩
theorem SI{w:World}{b:Nat}{hv:Value}{hl:List Fl}{A:Option Addr}{cap:Nat}{ps:List XP}{root:Nat}(h:BN w b hv hl A cap ps root):
  Calls prog 55 #[.pointer (some ⟨b,0,none⟩)] w fun e w'=>e=.returned (.int .i64 (root:Int))/\w'=w:=by
 have c2:=h.c2
 clear h
 go_enter func55,ntmps55
 go_wp2
 go_ret
 exact⟨rfl,rfl⟩
theorem O1{w:World}{b:Nat}{hv:Value}{hl:List Fl}{A:Option Addr}{cap:Nat}{ps:List XP}{root:Nat}(h:BN w b hv hl A cap ps root)(k:Nat)(hk:k<ps.length):
  Calls prog 66 #[.pointer (some ⟨b,0,none⟩),.int .i64 (k:Int)] w fun e w'=>e=.returned (.bool true)/\w'=w:=by
 have c1:=h.c1
 have k1:(0:Int)<=(k:Int):=by omega
 have k2:(k:Int)<(ps.length:Int):=by omega
 clear h
 go_enter func66,ntmps66
 go_wp2
 go_ret
 exact⟨rfl,rfl⟩
theorem Y3{w:World}{b:Nat}{hv:Value}{hl:List Fl}{A:Option Addr}{cap:Nat}{ps:List XP}{root:Nat}(h:BN w b hv hl A cap ps root)(k:Nat)(hk:k<ps.length):
  Calls prog 39 #[.pointer (some ⟨b,0,none⟩),.int .i64 (k:Int)] w fun e w'=>e=.returned (.tuple #[ps[k].loc.val,.nilIface])/\Below w.heap.size w w':=by
 have hbA:Below w.heap.size w (w.alloc sW):=ag.alloc af _
 have HH:=Box.m (O1 (h.below hbA) k hk)
 have hA:=h.below hbA
 have c1:=hA.c1
 obtain⟨g,off,e1,hx⟩:=hA.xl.at_ k hk
 subst e1
 obtain⟨p,hp⟩:∃p,ps[k]=p:=⟨_,rfl⟩
 rw[hp]at hx ⊢
 obtain⟨hd,fs,bd,id,⟨a0,a1,a2,a3,a4,a5,a6,a7⟩⟩:=p
 obtain⟨d0,d1,d2,d3,d4,d5,d6,d7,d8,d9,da⟩:=hx
 have hcap:=h.cap
 have k1:(0:Int)<=(k:Int):=by omega
 have k2:(k:Int)<(ps.length:Int):=by omega
 clear h hA hp
 go_enter func39,ntmps39
 go_wp2_with (go_at_call 66;refine HH.o.mono ?_;rintro e w' ⟨rfl,rfl⟩)
 exact bodyPost_ret (v:=.tuple #[ma a0 a1 a2 a3 a4 a5 a6 a7,.nilIface]) (by simp[results,results39,go_sem]) rfl ⟨rfl,ag.alloc af _⟩
def jB:Option Nat->Value
 | some i=>.int .i64 (i:Int)
 | none=>.int .i64 (-1)
theorem Wh(x1:Value)(p:XP->Bool)(A:Option Addr)(cap:Nat)(ps:List XP)(w:World)(hX:XL w A ps)(hc:∀q∈ps,∀w1,Below w.heap.size w w1->Calls prog 166 #[q.val,x1] w1 fun e w2=>e=.returned (.bool (p q))/\Below w1.heap.size w1 w2):
  Calls prog 80 #[.slice A ps.length cap,.func (.func 166) #[] #[x1]] w fun e w'=>e=.returned (jB (ps.findIdx? p))/\Below w.heap.size w w':=by
 obtain⟨R,HR⟩:∃R,Box (ps.findIdx? p=R):=⟨_,⟨rfl⟩⟩
 rw[HR.o]
 have HX:=Box.m hX
 have HC:=Box.m hc
 have hlen:=hX.len
 clear hX hc
 go_enter func80,ntmps80
 go_wp2
 go_loopg [8] ps.length (fun gf i wx=>∃k:Nat,k<=ps.length/\i=.int .i64 k/\Below w.heap.size w wx/\Box (∀j (hj:j<ps.length),j<k->p ps[j]=false)/\ps.length - k<=gf)
 case atStart=>exact⟨0,ZY _,rfl,Below.refl _ _,⟨fun j _ h=>absurd h (by omega)⟩,by omega⟩
 case round=>
  obtain⟨k,hk,rfl,hb,HA,hgf⟩:=hrel
  by_cases hlt:k<ps.length
  ·obtain⟨g,off,e1,hx⟩:=(HX.o.below hb).at_ k hlt
   subst e1
   have HLT:=Box.m hlt
   have HCL:=Box.m (HC.o ps[k] (Ws hlt) wr hb)
   cases hq:p ps[k]
   ·have HA':Box (∀j (hj:j<ps.length),j<k+1->p ps[j]=false):=⟨fun j hj hjk=>by
     by_cases h:j=k
     ·subst h;exact hq
     ·exact HA.o j hj (by omega)⟩
    rw[hq]at HCL
    obtain⟨q,hp⟩:∃q,ps[k]=q:=⟨_,rfl⟩
    rw[hp]at hx HCL
    obtain⟨hd,fs,bd,id,⟨a0,a1,a2,a3,a4,a5,a6,a7⟩⟩:=q
    obtain⟨d0,d1,d2,d3,d4,d5,d6,d7,d8,d9,da⟩:=hx
    simp only at d0 d1 d2 d3 d4 d5 d6 d7 d8 d9 da
    clear HC HA hq hp
    go_wp2_with fail
    refine HCL.o.mono ?_
    rintro e w1 ⟨rfl,hb1⟩
    clear HCL
    go_wp2
    go_roundg (ps.length - (k+1))
    case measure=>have:=HLT.o;omega
    case rel=>exact⟨k+1,HLT.o,by go_num,hb.trans (hb1.mono hb.size),HA',by have:=HLT.o;omega⟩
   ·have HE:Box (R=some k):=⟨by
     rw[<-HR.o]
     exact nN p ps k hlt hq (fun j hj=>HA.o j (by omega) hj)⟩
    rw[hq]at HCL
    obtain⟨q,hp⟩:∃q,ps[k]=q:=⟨_,rfl⟩
    rw[hp]at hx HCL
    obtain⟨hd,fs,bd,id,⟨a0,a1,a2,a3,a4,a5,a6,a7⟩⟩:=q
    obtain⟨d0,d1,d2,d3,d4,d5,d6,d7,d8,d9,da⟩:=hx
    simp only at d0 d1 d2 d3 d4 d5 d6 d7 d8 d9 da
    clear HC HA hq hp
    go_wp2_with fail
    refine HCL.o.mono ?_
    rintro e w1 ⟨rfl,hb1⟩
    clear HCL
    go_wp2
    go_ret
    exact⟨by rw[HE.o];rfl,hb.trans (hb1.mono hb.size)⟩
  ·have HE:Box (R=none):=⟨by
    rw[<-HR.o,Xu]
    intro q hq
    obtain⟨j,hj,rfl⟩:=ZV.1 hq
    exact HA.o j hj (by omega)⟩
   clear HC HX HA
   go_wp2
   go_ret
   exact⟨by rw[HE.o];rfl,hb⟩
theorem Uz(x1:Value)(p:XP->Bool)(A:Option Addr)(cap:Nat)(ps:List XP)(w:World)(hX:XL w A ps)(hc:∀q∈ps,∀w1,Below w.heap.size w w1->Calls prog 140 #[q.val,x1] w1 fun e w2=>e=.returned (.bool (p q))/\Below w1.heap.size w1 w2):
  Calls prog 80 #[.slice A ps.length cap,.func (.func 140) #[] #[x1]] w fun e w'=>e=.returned (jB (ps.findIdx? p))/\Below w.heap.size w w':=by
 obtain⟨R,HR⟩:∃R,Box (ps.findIdx? p=R):=⟨_,⟨rfl⟩⟩
 rw[HR.o]
 have HX:=Box.m hX
 have HC:=Box.m hc
 have hlen:=hX.len
 clear hX hc
 go_enter func80,ntmps80
 go_wp2
 go_loopg [8] ps.length (fun gf i wx=>∃k:Nat,k<=ps.length/\i=.int .i64 k/\Below w.heap.size w wx/\Box (∀j (hj:j<ps.length),j<k->p ps[j]=false)/\ps.length - k<=gf)
 case atStart=>exact⟨0,ZY _,rfl,Below.refl _ _,⟨fun j _ h=>absurd h (by omega)⟩,by omega⟩
 case round=>
  obtain⟨k,hk,rfl,hb,HA,hgf⟩:=hrel
  by_cases hlt:k<ps.length
  ·obtain⟨g,off,e1,hx⟩:=(HX.o.below hb).at_ k hlt
   subst e1
   have HLT:=Box.m hlt
   have HCL:=Box.m (HC.o ps[k] (Ws hlt) wr hb)
   cases hq:p ps[k]
   ·have HA':Box (∀j (hj:j<ps.length),j<k+1->p ps[j]=false):=⟨fun j hj hjk=>by
     by_cases h:j=k
     ·subst h;exact hq
     ·exact HA.o j hj (by omega)⟩
    rw[hq]at HCL
    obtain⟨q,hp⟩:∃q,ps[k]=q:=⟨_,rfl⟩
    rw[hp]at hx HCL
    obtain⟨hd,fs,bd,id,⟨a0,a1,a2,a3,a4,a5,a6,a7⟩⟩:=q
    obtain⟨d0,d1,d2,d3,d4,d5,d6,d7,d8,d9,da⟩:=hx
    simp only at d0 d1 d2 d3 d4 d5 d6 d7 d8 d9 da
    clear HC HA hq hp
    go_wp2_with fail
    refine HCL.o.mono ?_
    rintro e w1 ⟨rfl,hb1⟩
    clear HCL
    go_wp2
    go_roundg (ps.length - (k+1))
    case measure=>have:=HLT.o;omega
    case rel=>exact⟨k+1,HLT.o,by go_num,hb.trans (hb1.mono hb.size),HA',by have:=HLT.o;omega⟩
   ·have HE:Box (R=some k):=⟨by
     rw[<-HR.o]
     exact nN p ps k hlt hq (fun j hj=>HA.o j (by omega) hj)⟩
    rw[hq]at HCL
    obtain⟨q,hp⟩:∃q,ps[k]=q:=⟨_,rfl⟩
    rw[hp]at hx HCL
    obtain⟨hd,fs,bd,id,⟨a0,a1,a2,a3,a4,a5,a6,a7⟩⟩:=q
    obtain⟨d0,d1,d2,d3,d4,d5,d6,d7,d8,d9,da⟩:=hx
    simp only at d0 d1 d2 d3 d4 d5 d6 d7 d8 d9 da
    clear HC HA hq hp
    go_wp2_with fail
    refine HCL.o.mono ?_
    rintro e w1 ⟨rfl,hb1⟩
    clear HCL
    go_wp2
    go_ret
    exact⟨by rw[HE.o];rfl,hb.trans (hb1.mono hb.size)⟩
  ·have HE:Box (R=none):=⟨by
    rw[<-HR.o,Xu]
    intro q hq
    obtain⟨j,hj,rfl⟩:=ZV.1 hq
    exact HA.o j hj (by omega)⟩
   clear HC HX HA
   go_wp2
   go_ret
   exact⟨by rw[HE.o];rfl,hb⟩
theorem V8(x1:Value)(p:XP->Bool)(A:Option Addr)(cap:Nat)(ps:List XP)(w:World)(hX:XL w A ps)(hc:∀q∈ps,∀w1,Below w.heap.size w w1->Calls prog 81 #[q.val,x1] w1 fun e w2=>e=.returned (.bool (p q))/\Below w1.heap.size w1 w2):
  Calls prog 80 #[.slice A ps.length cap,.func (.func 81) #[] #[x1]] w fun e w'=>e=.returned (jB (ps.findIdx? p))/\Below w.heap.size w w':=by
 obtain⟨R,HR⟩:∃R,Box (ps.findIdx? p=R):=⟨_,⟨rfl⟩⟩
 rw[HR.o]
 have HX:=Box.m hX
 have HC:=Box.m hc
 have hlen:=hX.len
 clear hX hc
 go_enter func80,ntmps80
 go_wp2
 go_loopg [8] ps.length (fun gf i wx=>∃k:Nat,k<=ps.length/\i=.int .i64 k/\Below w.heap.size w wx/\Box (∀j (hj:j<ps.length),j<k->p ps[j]=false)/\ps.length - k<=gf)
 case atStart=>exact⟨0,ZY _,rfl,Below.refl _ _,⟨fun j _ h=>absurd h (by omega)⟩,by omega⟩
 case round=>
  obtain⟨k,hk,rfl,hb,HA,hgf⟩:=hrel
  by_cases hlt:k<ps.length
  ·obtain⟨g,off,e1,hx⟩:=(HX.o.below hb).at_ k hlt
   subst e1
   have HLT:=Box.m hlt
   have HCL:=Box.m (HC.o ps[k] (Ws hlt) wr hb)
   cases hq:p ps[k]
   ·have HA':Box (∀j (hj:j<ps.length),j<k+1->p ps[j]=false):=⟨fun j hj hjk=>by
     by_cases h:j=k
     ·subst h;exact hq
     ·exact HA.o j hj (by omega)⟩
    rw[hq]at HCL
    obtain⟨q,hp⟩:∃q,ps[k]=q:=⟨_,rfl⟩
    rw[hp]at hx HCL
    obtain⟨hd,fs,bd,id,⟨a0,a1,a2,a3,a4,a5,a6,a7⟩⟩:=q
    obtain⟨d0,d1,d2,d3,d4,d5,d6,d7,d8,d9,da⟩:=hx
    simp only at d0 d1 d2 d3 d4 d5 d6 d7 d8 d9 da
    clear HC HA hq hp
    go_wp2_with fail
    refine HCL.o.mono ?_
    rintro e w1 ⟨rfl,hb1⟩
    clear HCL
    go_wp2
    go_roundg (ps.length - (k+1))
    case measure=>have:=HLT.o;omega
    case rel=>exact⟨k+1,HLT.o,by go_num,hb.trans (hb1.mono hb.size),HA',by have:=HLT.o;omega⟩
   ·have HE:Box (R=some k):=⟨by
     rw[<-HR.o]
     exact nN p ps k hlt hq (fun j hj=>HA.o j (by omega) hj)⟩
    rw[hq]at HCL
    obtain⟨q,hp⟩:∃q,ps[k]=q:=⟨_,rfl⟩
    rw[hp]at hx HCL
    obtain⟨hd,fs,bd,id,⟨a0,a1,a2,a3,a4,a5,a6,a7⟩⟩:=q
    obtain⟨d0,d1,d2,d3,d4,d5,d6,d7,d8,d9,da⟩:=hx
    simp only at d0 d1 d2 d3 d4 d5 d6 d7 d8 d9 da
    clear HC HA hq hp
    go_wp2_with fail
    refine HCL.o.mono ?_
    rintro e w1 ⟨rfl,hb1⟩
    clear HCL
    go_wp2
    go_ret
    exact⟨by rw[HE.o];rfl,hb.trans (hb1.mono hb.size)⟩
  ·have HE:Box (R=none):=⟨by
    rw[<-HR.o,Xu]
    intro q hq
    obtain⟨j,hj,rfl⟩:=ZV.1 hq
    exact HA.o j hj (by omega)⟩
   clear HC HX HA
   go_wp2
   go_ret
   exact⟨by rw[HE.o];rfl,hb⟩
theorem Blk.below{w w':World}{b:Nat}{v0 v1 v2 v3 v4 v5 v6 v7:Value}(h:Blk w b v0 v1 v2 v3 v4 v5 v6 v7)(hb:Below w.heap.size w w'):Blk w' b v0 v1 v2 v3 v4 v5 v6 v7:=by
 have hlt:=ZZ w _ h.c0
 have key:∀(i:Nat) (v:Value),w.cell? ⟨b,i,none⟩=some v->w'.cell? ⟨b,i,none⟩=some v:=fun i v hv=>(hb.cell (p:=⟨b,i,none⟩) hlt).trans hv
 exact⟨key _ _ h.c0,key _ _ h.c1,key _ _ h.c2,key _ _ h.c3,key _ _ h.c4,key _ _ h.c5,key _ _ h.c6,key _ _ h.c7,fun i=>(hb.frozen (p:=⟨b,i,none⟩) hlt).trans (h.fz i)⟩
abbrev Za(w:World)(b:Nat)(a:AV):Prop:=Blk w b (.string a.sc) (.bool a.hA) (.string a.au) (.string a.pa) (.bool a.hQ) (.string a.qu) (.bool a.hF) (.string a.fr)
def fq(q:XP):Obj:=.cells #[q.hd,.string q.bd,.string q.id,.string q.loc.sc,.bool q.loc.hA,.string q.loc.au,.string q.loc.pa,.bool q.loc.hQ,.string q.loc.qu,.bool q.loc.hF,.string q.loc.fr] 104
theorem H8(a b:ByteArray):(a.toList==b.toList)=decide (a.data.toList=b.data.toList):=by
 by_cases h:a.data.toList=b.data.toList
 ·rw[LV h,decide_eq_true h]
 ·rw[K4 h,decide_eq_false h]
theorem JO(q:XP)(g:Nat)(a:AV)(w:World)(hB:Za w g a):
  Calls prog 140 #[q.val,.pointer (some ⟨g,0,none⟩)] w fun e w'=>e=.returned (.bool (decide (q.id.data.toList=a.pa.data.toList)))/\Below w.heap.size w w':=by
 rw[<-H8]
 have hbA:Below w.heap.size w (w.alloc (fq q)):=ag.alloc af _
 obtain⟨hd,fs,bd,id,⟨a0,a1,a2,a3,a4,a5,a6,a7⟩⟩:=q
 have c3:=(hB.below hbA).c3
 unfold fq at c3 hbA
 simp only at c3 hbA
 obtain⟨r,HR⟩:∃r,Box ((id.toList==a.pa.toList)=r):=⟨_,⟨rfl⟩⟩
 clear hB
 go_enter func140,ntmps140
 go_wp2
 go_ret
 exact⟨rfl,hbA⟩
theorem Lp(q:XP)(g:Nat)(a:AV)(w:World)(hB:Za w g a):
  Calls prog 81 #[q.val,.pointer (some ⟨g,0,none⟩)] w fun e w'=>e=.returned (.bool (eqA q.loc.ab a.ab))/\Below w.heap.size w w':=by
 have hbA:Below w.heap.size w (w.alloc (fq q)):=ag.alloc af _
 obtain⟨r,hr⟩:∃r,eqA q.loc.ab a.ab=r:=⟨_,rfl⟩
 rw[hr]
 have heq:∀w:World,(Op.equalIn 10000 60 q.loc.val a.val).run prog w=.ok r w:=fun w=>Og _ _ _ (by rw[<-hr,Oo];exact⟨BX,fun h=>by rw[h]⟩) w
 obtain⟨hd,fs,bd,id,⟨b0,b1,b2,b3,b4,b5,b6,b7⟩⟩:=q
 obtain⟨a0,a1,a2,a3,a4,a5,a6,a7⟩:=a
 obtain⟨c0,c1,c2,c3,c4,c5,c6,c7,cf⟩:=hB.below hbA
 unfold fq at c0 c1 c2 c3 c4 c5 c6 c7 cf hbA
 simp only at c0 c1 c2 c3 c4 c5 c6 c7 hbA heq
 clear hB hr
 go_enter func81,ntmps81
 go_wp2
 go_ret
 exact⟨rfl,hbA⟩
theorem aP(w:World)(o:Obj):(w.alloc o).heap[w.heap.size]?=some o:=Array.getElem?_push_size
theorem wM(f:BP->Bool)(ps:List XP):(ps.map XP.bp).findIdx? f=ps.findIdx? fun q=>f q.bp:=by
 rw[List.findIdx?_map]
 rfl
theorem Rm{w:World}{b:Nat}{hv:Value}{hl:List Fl}{A:Option Addr}{cap:Nat}{ps:List XP}{root:Nat}(h:BN w b hv hl A cap ps root)(a:AV):
  Calls prog 79 #[.pointer (some ⟨b,0,none⟩),a.val] w fun e w'=>e=.returned (jB (lX (ps.map XP.bp) a.ab))/\Below w.heap.size w w':=by
 obtain⟨R,HR⟩:∃R,Box (lX (ps.map XP.bp) a.ab=R):=⟨_,⟨rfl⟩⟩
 rw[HR.o]
 have hbA:Below w.heap.size w (w.alloc (ko a.sc a.hA a.au a.pa a.hQ a.qu a.hF a.fr)):=ag.alloc af _
 have hBl:Za (w.alloc (ko a.sc a.hA a.au a.pa a.hQ a.qu a.hF a.fr)) w.heap.size a:=dU (aP w _)
 have hA:=h.below hbA
 have c1:=hA.c1
 have HI:=Box.m (Uz (.pointer (some ⟨w.heap.size,0,none⟩)) (fun q=>decide (q.id.data.toList=a.pa.data.toList)) A cap ps _ hA.xl (fun q _ w1 hb1=>JO q _ a w1 (hBl.below hb1)))
 obtain⟨a0,a1,a2,a3,a4,a5,a6,a7⟩:=a
 simp only at hbA c1 HI
 clear h hA hBl
 have HB:=Box.m hbA
 have hcid:∀x:ByteArray,x.toList=[99,105,100]↔x.data.toList=Xt:=fun x=>by rw[ByteArray.toList_eq];rfl
 by_cases e0:a0.toList=[99,105,100]
 ·cases a1 with
  | true=>
   have HN:Box (R=none):=⟨by rw[<-HR.o];unfold lX;rw[if_neg (fun hc=>absurd (show true=false from hc.2.1) (by decide))]⟩
   clear HR HI hcid
   go_enter func79,ntmps79
   go_wp2
   go_ret
   exact⟨by rw[HN.o];rfl,HB.o⟩
  | false=>
   cases a4 with
   | true=>
    have HN:Box (R=none):=⟨by rw[<-HR.o];unfold lX;rw[if_neg (fun hc=>absurd (show true=false from hc.2.2.1) (by decide))]⟩
    clear HR HI hcid
    go_enter func79,ntmps79
    go_wp2
    go_ret
    exact⟨by rw[HN.o];rfl,HB.o⟩
   | false=>
    by_cases h3:a3.size=0
    ·have e3:=dC a3 h3
     have HN:Box (R=none):=⟨by rw[<-HR.o];unfold lX;rw[if_neg (fun hc=>hc.2.2.2 (fZ a3 h3))]⟩
     clear HR HI hcid h3
     go_enter func79,ntmps79
     go_wp2
     go_ret
     exact⟨by rw[HN.o];rfl,HB.o⟩
    ·have e3:=bN a3 h3
     have HN:Box (R=ps.findIdx? fun q=>decide (q.id.data.toList=a3.data.toList)):=⟨by
      rw[<-HR.o]
      unfold lX
      rw[if_pos ⟨(hcid a0).1 e0,rfl,rfl,fun hc=>h3 ((xA a3).1 hc)⟩,wM]
      rfl⟩
     rw[<-HN.o]at HI
     clear HR HN hcid h3
     go_enter func79,ntmps79
     go_wp2_with fail
     refine HI.o.mono ?_
     rintro e w1 ⟨rfl,hb1⟩
     cases R with
     | none=>
      go_wp2
      go_ret
      exact⟨rfl,HB.o.trans (hb1.mono HB.o.size)⟩
     | some i=>
      go_wp2
      go_ret
      exact⟨rfl,HB.o.trans (hb1.mono HB.o.size)⟩
 ·have HN:Box (R=none):=⟨by rw[<-HR.o];unfold lX;rw[if_neg (fun hc=>e0 ((hcid a0).2 hc.1))]⟩
  clear HR HI hcid
  go_enter func79,ntmps79
  go_wp2
  go_ret
  exact⟨by rw[HN.o];rfl,HB.o⟩
theorem kH{w:World}{g i:Nat}{c:Array Value}{T:TypeId}{fz:Nat×Nat}(h:w.heap[g]?=some (.cells c T fz))(v:Value):(w.setCell ⟨g,i,none⟩ v).heap[g]?=some (.cells (c.setIfInBounds i v) T fz):=by
 rw[setCell_eq_setRow w g i _ _ _ _ h]
 exact setRow_heap w g _ _ _ _ h
theorem kR{w:World}{g:Nat}{u0 u1 u2 u3 u4 u5 u6 u7:Value}(h:w.heap[g]?=some (.cells #[u0,u1,u2,u3,u4,u5,u6,u7] 60 (0,0)))(v0 v1 v2 v3 v4 v5 v6 v7:Value):
  ((((((((w.setCell ⟨g,0,none⟩ v0).setCell ⟨g,1,none⟩ v1).setCell ⟨g,2,none⟩ v2).setCell ⟨g,3,none⟩ v3).setCell ⟨g,4,none⟩ v4).setCell ⟨g,5,none⟩ v5).setCell ⟨g,6,none⟩ v6).setCell ⟨g,7,none⟩ v7).heap[g]?=some (.cells #[v0,v1,v2,v3,v4,v5,v6,v7] 60 (0,0)):=by
 have h0:(w.setCell ⟨g,0,none⟩ v0).heap[g]?=some (.cells #[v0,u1,u2,u3,u4,u5,u6,u7] 60 (0,0)):=by
  have:=kH (i:=0) h v0
  simpa using this
 have h1:((w.setCell ⟨g,0,none⟩ v0).setCell ⟨g,1,none⟩ v1).heap[g]?=some (.cells #[v0,v1,u2,u3,u4,u5,u6,u7] 60 (0,0)):=by
  have:=kH (i:=1) h0 v1
  simpa using this
 have h2:(((w.setCell ⟨g,0,none⟩ v0).setCell ⟨g,1,none⟩ v1).setCell ⟨g,2,none⟩ v2).heap[g]?=some (.cells #[v0,v1,v2,u3,u4,u5,u6,u7] 60 (0,0)):=by
  have:=kH (i:=2) h1 v2
  simpa using this
 have h3:((((w.setCell ⟨g,0,none⟩ v0).setCell ⟨g,1,none⟩ v1).setCell ⟨g,2,none⟩ v2).setCell ⟨g,3,none⟩ v3).heap[g]?=some (.cells #[v0,v1,v2,v3,u4,u5,u6,u7] 60 (0,0)):=by
  have:=kH (i:=3) h2 v3
  simpa using this
 have h4:(((((w.setCell ⟨g,0,none⟩ v0).setCell ⟨g,1,none⟩ v1).setCell ⟨g,2,none⟩ v2).setCell ⟨g,3,none⟩ v3).setCell ⟨g,4,none⟩ v4).heap[g]?=some (.cells #[v0,v1,v2,v3,v4,u5,u6,u7] 60 (0,0)):=by
  have:=kH (i:=4) h3 v4
  simpa using this
 have h5:((((((w.setCell ⟨g,0,none⟩ v0).setCell ⟨g,1,none⟩ v1).setCell ⟨g,2,none⟩ v2).setCell ⟨g,3,none⟩ v3).setCell ⟨g,4,none⟩ v4).setCell ⟨g,5,none⟩ v5).heap[g]?=some (.cells #[v0,v1,v2,v3,v4,v5,u6,u7] 60 (0,0)):=by
  have:=kH (i:=5) h4 v5
  simpa using this
 have h6:(((((((w.setCell ⟨g,0,none⟩ v0).setCell ⟨g,1,none⟩ v1).setCell ⟨g,2,none⟩ v2).setCell ⟨g,3,none⟩ v3).setCell ⟨g,4,none⟩ v4).setCell ⟨g,5,none⟩ v5).setCell ⟨g,6,none⟩ v6).heap[g]?=some (.cells #[v0,v1,v2,v3,v4,v5,v6,u7] 60 (0,0)):=by
  have:=kH (i:=6) h5 v6
  simpa using this
 have h7:((((((((w.setCell ⟨g,0,none⟩ v0).setCell ⟨g,1,none⟩ v1).setCell ⟨g,2,none⟩ v2).setCell ⟨g,3,none⟩ v3).setCell ⟨g,4,none⟩ v4).setCell ⟨g,5,none⟩ v5).setCell ⟨g,6,none⟩ v6).setCell ⟨g,7,none⟩ v7).heap[g]?=some (.cells #[v0,v1,v2,v3,v4,v5,v6,v7] 60 (0,0)):=by
  have:=kH (i:=7) h6 v7
  simpa using this
 exact h7
theorem iW{w w':World}{g:Nat}{C:Nat}(hb:Below C w w')(hg:C<=g)(v0 v1 v2 v3 v4 v5 v6 v7:Value):Below C w ((((((((w'.setCell ⟨g,0,none⟩ v0).setCell ⟨g,1,none⟩ v1).setCell ⟨g,2,none⟩ v2).setCell ⟨g,3,none⟩ v3).setCell ⟨g,4,none⟩ v4).setCell ⟨g,5,none⟩ v5).setCell ⟨g,6,none⟩ v6).setCell ⟨g,7,none⟩ v7):=by
 iterate 8 (refine Below.setCell ?_ hg _)
 exact hb
theorem FT{w:World}{b:Nat}{hv:Value}{hl:List Fl}{A:Option Addr}{cap:Nat}{ps:List XP}{root:Nat}(h:BN w b hv hl A cap ps root)(a:AV)(ha:a.Small 1000000):
  Calls prog 46 #[.pointer (some ⟨b,0,none⟩),a.val] w fun e w'=>e=.returned (jB (jU (ps.map XP.bp) a.ab))/\Below w.heap.size w w':=by
 obtain⟨R,HR⟩:∃R,Box (jU (ps.map XP.bp) a.ab=R):=⟨_,⟨rfl⟩⟩
 rw[HR.o]
 have hbA:Below w.heap.size w (w.alloc (ko a.sc a.hA a.au a.pa a.hQ a.qu a.hF a.fr)):=ag.alloc af _
 have hgA:=aP w (ko a.sc a.hA a.au a.pa a.hQ a.qu a.hF a.fr)
 have hszA:(w.alloc (ko a.sc a.hA a.au a.pa a.hQ a.qu a.hF a.fr)).heap.size=w.heap.size+1:=by simp
 have HW:=Box.m (Dm a (w.alloc (ko a.sc a.hA a.au a.pa a.hQ a.qu a.hF a.fr)) ha)
 have HAB:Box ((rF a).ab=sU a.ab):=⟨Fj a⟩
 obtain⟨a',ha'⟩:∃a',rF a=a':=⟨_,rfl⟩
 rw[ha']at HW HAB
 clear ha'
 obtain⟨a0,a1,a2,a3,a4,a5,a6,a7⟩:=a
 obtain⟨x0,x1,x2,x3,x4,x5,x6,x7⟩:=a'
 have HBN:=Box.m h
 clear h ha
 go_enter func46,ntmps46
 go_wp2_with fail
 refine HW.o.mono ?_
 rintro e w1 ⟨rfl,hb1⟩
 have hb01:=hbA.trans (hb1.mono (by omega))
 have hg1:=az hb1 hgA
 obtain⟨y0,y1,y2,y3,y4,y5,y6,y7,yf⟩:=dU hg1
 have hg2:=kR hg1 (.string x0) (.bool x1) (.string x2) (.string x3) (.bool x4) (.string x5) (.bool x6) (.string x7)
 have hb2:=iW hb01 af (.string x0) (.bool x1) (.string x2) (.string x3) (.bool x4) (.string x5) (.bool x6) (.string x7)
 clear HW hg1
 go_wp2_with fail
 generalize (((((((w1.setCell ⟨w.heap.size,0,none⟩ (.string x0)).setCell ⟨w.heap.size,1,none⟩ (.bool x1)).setCell ⟨w.heap.size,2,none⟩ (.string x2)).setCell ⟨w.heap.size,3,none⟩ (.string x3)).setCell ⟨w.heap.size,4,none⟩ (.bool x4)).setCell ⟨w.heap.size,5,none⟩ (.string x5)).setCell ⟨w.heap.size,6,none⟩ (.bool x6)).setCell ⟨w.heap.size,7,none⟩ (.string x7)=w2 at hg2 hb2 ⊢
 clear y0 y1 y2 y3 y4 y5 y6 y7 yf hb1 hb01 hbA hgA hszA
 refine(Rm (HBN.o.below hb2) ⟨x0,x1,x2,x3,x4,x5,x6,x7⟩).mono ?_
 rintro e w3 ⟨rfl,hb3⟩
 have hb03:=hb2.trans (hb3.mono hb2.size)
 have hg3:=az hb3 hg2
 have HR2:Box (R=match lX (ps.map XP.bp) (AV.ab ⟨x0,x1,x2,x3,x4,x5,x6,x7⟩)with
   | some i=>some i
   | none=>if eqA (AV.ab ⟨x0,x1,x2,x3,x4,x5,x6,x7⟩) eZ then none else (ps.map XP.bp).findIdx? (fun p=>eqA p.loc (AV.ab ⟨x0,x1,x2,x3,x4,x5,x6,x7⟩))):=⟨by rw[<-HR.o,HAB.o];rfl⟩
 clear HR HAB hg2
 cases hN:lX (ps.map XP.bp) (AV.ab ⟨x0,x1,x2,x3,x4,x5,x6,x7⟩)with
 | some i=>
  have HE:Box (R=some i):=⟨by rw[HR2.o,hN]⟩
  clear HR2 hN
  have k0:(0:Int)<=(i:Int):=by omega
  simp only[jB]
  go_wp2
  go_ret
  exact⟨by rw[HE.o];rfl,hb03⟩
 | none=>
  obtain⟨y0,y1,y2,y3,y4,y5,y6,y7,yf⟩:=dU hg3
  obtain⟨q,hq⟩:∃q,eqA (AV.ab ⟨x0,x1,x2,x3,x4,x5,x6,x7⟩) eZ=q:=⟨_,rfl⟩
  have heq:∀w:World,(Op.equalIn 10000 60 (AV.val ⟨x0,x1,x2,x3,x4,x5,x6,x7⟩) Ba.val).run prog w=.ok q w:=fun w=>Og _ _ _ (by rw[<-hq,Oo];exact⟨fun e=>BX e,fun e=>by rw[e];rfl⟩) w
  simp only[jB]
  cases q with
  | true=>
   have HE:Box (R=none):=⟨by rw[HR2.o,hN,hq];rfl⟩
   clear HR2 hN hq hg3
   go_wp2
   go_ret
   exact⟨by rw[HE.o];rfl,hb03⟩
  | false=>
   have HE:Box (R=ps.findIdx? fun p=>eqA p.loc.ab (AV.ab ⟨x0,x1,x2,x3,x4,x5,x6,x7⟩)):=⟨by
    rw[HR2.o,hN,hq]
    simp only[Bool.false_eq_true,if_false]
    rw[wM]
    rfl⟩
   have hB3:=HBN.o.below hb03
   have c1:=hB3.c1
   have HI:=Box.m (V8 (.pointer (some ⟨w.heap.size,0,none⟩)) (fun p=>eqA p.loc.ab (AV.ab ⟨x0,x1,x2,x3,x4,x5,x6,x7⟩)) A cap ps _ hB3.xl (fun p _ w1 hb1=>Lp p _ ⟨x0,x1,x2,x3,x4,x5,x6,x7⟩ w1 ((dU hg3).below hb1)))
   rw[<-HE.o]at HI
   clear HR2 hN hq hg3 HE hB3
   go_wp2_with fail
   refine HI.o.mono ?_
   rintro e w4 ⟨rfl,hb4⟩
   cases R with
   | none=>
    go_wp2
    go_ret
    exact⟨rfl,hb03.trans (hb4.mono hb03.size)⟩
   | some i=>
    go_wp2
    go_ret
    exact⟨rfl,hb03.trans (hb4.mono hb03.size)⟩
theorem JV{ops:Array Oper}{rest:List Oper}{o:Oper}{a:Act}{Q:Exit->Act->World->Prop}(W w0:World)(hgd:o.guard=none)(s x:Operand)(ho:o.op=.call { callee:=.builtin .append,args:=#[s,x],argTypes:=#[52,52] })
  (B:Nat) (v:Value) (l:List ByteArray) (hs:a.eval s=v) (hown:aV W B v l) (b c:Nat) (t:ByteArray) (hx:a.eval x=.slice (some ⟨b,0,none⟩) 1 c) (h0:W.cell? ⟨b,0,none⟩=some (.string t)) (hl:l.length+1<=10000000) (hB:B<=W.heap.size) (hb:Below B w0 W)
  (h:∀v' w',aV w' B v' (l++[t])->Below B w0 w'->wpList prog ops Q rest (a.put o.dst v') w'):wpList prog ops Q (o::rest) a W:=by
 obtain⟨i0,hi,hz0,hz1,hz2⟩:=info_parts Tryz.infoStr
 refine wpList_append_own W hgd s x 52 ho B 9 i0 (.string ⟨#[]⟩) 1 16 underlying52 hi hz0 hz1 hz2 rfl (by decide) v l.length (l.map Value.string) hs hown ⟨b,0,none⟩ 1 c [.string t] hx rfl ?_ (by intro u hu;rw[List.mem_singleton.1 hu];rfl) (by unfold maxLen;omega) (by omega) hB ?_
 ·intro j u hj
  have hj0:j=0:=by
   have:=(List.getElem?_eq_some_iff.1 hj).1
   simp at this;exact this
  subst hj0
  simp at hj
  subst hj
  rw[Addr.add_lit,Nat.zero_add]
  exact h0
 ·intro v' w' h1 h2 _
  refine h v' w' ?_ (hb.grown h2 hB (fun k hk=>(hown.lt k hk).1))
  unfold aV
  rw[List.length_append,List.map_append]
  exact h1
theorem FW(v:Value)(L:List Fl)(w:World)(hT:Hd L)(hF:FL w v L):
  Calls prog 192 #[v] w fun e w'=>∃u,e=.returned u/\aV w' w.heap.size u (L.map (·.2))/\Below w.heap.size w w':=by
 obtain⟨A,cap,rfl,hcap,hcells⟩:=hF
 have HC:=Box.m hcells
 have HM:=Box.m hT.half.tiny
 have hL:=hT.1
 clear hcells hT
 go_enter func192,ntmps192
 go_wp2
 go_loopw [3,8] (fun x i wr=>∃k:Nat,k<=L.length/\i=.int .i64 k/\aV wr w.heap.size x ((L.take k).map (·.2))/\Below w.heap.size w wr) (fun _ i _=>L.length - (intOf i).toNat)
 case atStart=>exact⟨0,ZY _,rfl,aV.nil _ _,Below.refl _ _⟩
 case round=>
  obtain⟨k,hk,rfl,hown,hb⟩:=hrel
  have hsz:=hb.size
  by_cases hlt:k<L.length
  ·obtain⟨b,off,n,v,rfl,HN,hn,hv,hbl,d0,d1⟩:=HC.o.elem HM.o hb k hlt
   have HS:Box ((L.take (k+1)).map (·.2)=(L.take k).map (·.2)++[v]):=⟨by
    rw[List.take_add_one,HN.o]
    simp⟩
   have hb2:=hb.alloc hsz (.cells #[.string n,.string v] 147)
   have hownA:aV (wr.alloc (.cells #[.string n,.string v] 147)) w.heap.size u3 ((L.take k).map (·.2)):=World.ownsRow.alloc hown _
   have hl:((L.take k).map (·.2)).length+1<=10000000:=by
    rw[List.length_map,ZW]
    omega
   clear HC HM HN hn hv hown
   go_wp2_with (at_builtin;refine JV _ w rfl (.tmp 12) (.tmp 15) rfl w.heap.size _ _ rfl (World.ownsRow.alloc hownA _) _ _ v rfl (by simp) hl (by simp;omega) (hb2.alloc hb2.size _) ?_;intro v' w3 hown3 hb3)
   go_roundw
   case rel=>exact⟨k+1,by omega,by go_num,by rw[HS.o];exact hown3,hb3⟩
   case measure=>simp[intOf];omega
  ·have HE:Box ((L.take k).map (·.2)=L.map (·.2)):=⟨by rw[List.take_of_length_le (by omega)]⟩
   rw[HE.o]at hown
   clear HC HM HE
   rcases hown.shape with⟨rfl,_⟩|⟨g2,cap2,rfl,_⟩
   all_goals
    go_wp2
    go_ret
    exact⟨_,rfl,hown,hb⟩
end Go.Proofs.YtkldkhdigkpniaaGreatDoor
