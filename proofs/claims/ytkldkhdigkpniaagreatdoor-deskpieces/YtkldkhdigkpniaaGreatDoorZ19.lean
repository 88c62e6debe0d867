import Derived.Test.YtkldkhdigkpniaaGreatDoorZ18
import Derived.Lib.CountLaws
import Derived.Lib.SplitLaws
import Derived.Lib.ReplaceLaws
set_option maxHeartbeats 4000000
set_option maxRecDepth 100000
open List renaming length_append → GL, flatMap_cons → VQ, length_cons → Ws, takeWhile_cons → Xu, all_cons → ZV, length_nil → ZW, map_cons → ZX, take_of_length_le → ZY
open Nat renaming le_refl → ZZ
open ByteArray renaming size_append → Z0
namespace Go.Proofs.YtkldkhdigkpniaaGreatDoor
open Go.RowKit Go.Proofs.Tryz
theorem Ea(b c:UInt8)(l:aa)(h:b≠c):Lib.index (b::l) [c]=if Lib.index l [c]=-1 then -1 else Lib.index l [c]+1:=by
 rw[uT,uT,Lib.indexByte]
 have h1:(b==c)=false:=by simpa using h
 rw[h1]
 simp
theorem yV(c:UInt8)(new:aa):∀(k:Nat) (b:UInt8) (l:aa),b≠c->k<=Lib.count l [c]->Lib.replaceK [c] new k (b::l)=b::Lib.replaceK [c] new k l:=by
 intro k b l hb hk
 cases k with
 | zero=>rfl
 | succ k=>
  obtain⟨i,hi⟩:=Lib.index_of_count (s:=l) (old:=[c]) (by omega)
  have h1:Lib.index (b::l) [c]=((i+1:Nat):Int):=by
   rw[Ea b c l hb,hi,if_neg (by omega)];omega
  rw[Lib.replaceK_hit [c] new k (b::l) (i+1) h1,Lib.replaceK_hit [c] new k l i hi]
  simp
theorem yN(c:UInt8)(new:aa)(k:Nat)(l:aa):Lib.replaceK [c] new (k+1) (c::l)=new++Lib.replaceK [c] new k l:=by
 have h1:Lib.index (c::l) [c]=((0:Nat):Int):=by
  rw[uT,Lib.indexByte];simp
 rw[Lib.replaceK_hit [c] new k (c::l) 0 h1]
 simp
def dbl(c:UInt8)(new:aa)(d:UInt8):aa:=if d=c then new else [d]
theorem Eu(c:UInt8)(new:aa)(l:aa):Lib.replaceK [c] new (Lib.count l [c]) l=l.flatMap (dbl c new):=by
 induction l with
 | nil=>
  have:Lib.count [] [c]=0:=by rw[Lib.count_one];rfl
  rw[this];rfl
 | cons d l ih=>
  by_cases hd:d=c
  ·subst hd
   rw[Lib.count_cons_eq,Nat.add_comm,yN,ih,VQ]
   simp[dbl]
  ·rw[Lib.count_cons_ne d c l hd,yV c new _ d l hd af,ih,VQ]
   simp[dbl,hd]
theorem Gp(c:UInt8)(new:aa)(l:aa)(hn:([c]==new)=false):Lib.replaceAll l [c] new=l.flatMap (dbl c new):=by
 unfold Lib.replaceAll Lib.replace
 rw[hn,if_neg (by simp)]
 unfold Lib.replaceNum
 rw[if_pos (by left;omega)]
 exact Eu c new l
theorem OC(c d:UInt8)(l:aa):(l.flatMap (dbl c [d,c])).length<=2*l.length:=by
 induction l with
 | nil=>exact ZZ _
 | cons x l ih=>
  rw[VQ,GL,Ws]
  have:(dbl c [d,c] x).length<=2:=by unfold dbl;split<;>simp
  omega
theorem WF(l:aa):(l.flatMap (dbl 92 [92,92])).flatMap (dbl 34 [92,34])=l.flatMap vR:=by
 rw[List.flatMap_assoc]
 congr 1
 funext c
 have key:∀n:Fin 256,(dbl 92 [92,92] (UInt8.ofNat n.val)).flatMap (dbl 34 [92,34])=vR (UInt8.ofNat n.val):=by decide +kernel
 have:=key ⟨c.toNat,c.toNat_lt⟩
 simpa using this
theorem zQ(s:ByteArray)(c:UInt8)(d:UInt8)(w:World)(hs:s.size<=1000000)(hm:Max w)(hcd:([c]==[d,c])=false):
  Calls prog 157 #[.string s,.string ⟨#[c]⟩,.string ⟨#[d,c]⟩] w fun e w'=>∃t,e=.returned (.string t)/\t.data.toList=s.data.toList.flatMap (dbl c [d,c])/\Below w.heap.size w w':=by
 obtain⟨_,x,hx⟩:=hm
 have hc:=Lib.countB_le ⟨#[c]⟩ (by show 1<=1;omega) _ s af
 refine(Tryz.strings_ReplaceAll s ⟨#[c]⟩ ⟨#[d,c]⟩ x w (by omega) hx (by show 1<=1;omega) (by
  have:(⟨#[d,c]⟩:ByteArray).size=2:=rfl
  rw[this];omega)).mono ?_
 rintro e w' ⟨rfl,hb⟩
 refine⟨_,rfl,?_,hb⟩
 exact Gp c [d,c] s.data.toList hcd
theorem Ib(s:ByteArray)(w:World)(hs:s.size<=100000)(hm:Max w):
  Calls prog 91 #[.string s] w fun e w'=>∃t,e=.returned (.string t)/\t.data.toList=wS s.data.toList/\t.size<=4*s.size+2/\Below w.heap.size w w':=by
 have HMx:=Box.m hm
 have hw0:=hm.1
 clear hm
 go_enter func91,ntmps91
 go_wp2_with fail
 refine(mr s _).mono ?_
 rintro e w1 ⟨rfl,hb1⟩
 have hsz1:=hb1.size
 cases ht:kP s.data.toList
 ·have HV:Box (wS s.data.toList=34::(s.data.toList.flatMap vR++[34])):=⟨by unfold wS;rw[ht];rfl⟩
  clear ht
  go_wp2_with fail
  refine(zQ s 92 92 _ (by omega) (HMx.o.below hb1 hw0) (by decide)).mono ?_
  rintro e w2 ⟨t1,rfl,h1,hb2⟩
  have b2:=hb1.trans (hb2.mono hsz1)
  have l1:=OC 92 92 s.data.toList
  rw[<-h1,ae,ae]at l1
  go_wp2_with fail
  refine(zQ t1 34 92 _ (by omega) (HMx.o.below b2 hw0) (by decide)).mono ?_
  rintro e w3 ⟨t2,rfl,h2,hb3⟩
  have b3:=b2.trans (hb3.mono b2.size)
  have l2:=OC 34 92 t1.data.toList
  rw[<-h2,ae,ae]at l2
  have HE:Box (((⟨#[34]⟩:ByteArray)++t2++⟨#[34]⟩).data.toList=wS s.data.toList):=⟨by
   rw[HV.o,<-WF,<-h1,<-h2];simp⟩
  have hz:((⟨#[34]⟩:ByteArray)++t2++⟨#[34]⟩).size<=4*s.size+2:=by
   rw[Z0,Z0]
   show 1+t2.size+1<=_
   omega
  have HZ:=Box.m hz
  clear hz h1 h2 HV
  go_wp2
  go_ret
  exact⟨_,rfl,HE.o,HZ.o,b3⟩
 ·have HV:Box (s.data.toList=wS s.data.toList):=⟨by unfold wS;rw[ht];rfl⟩
  clear ht
  go_wp2
  go_ret
  exact⟨_,rfl,HV.o,by omega,hb1⟩
def gY(f:Fl):Bool:=kG (pb2 f)
def lZ(L:List Fl):Nat:=(L.takeWhile gY).length
theorem tF(L:List Fl)(k:Nat)(f:Fl)(hk:L[k]?=some f)(h:(L.take k).all gY=true)(h':gY f=false):lZ L=k:=by
 induction L generalizing k with
 | nil=>exact absurd hk (by simp)
 | cons g L ih=>
  unfold lZ
  cases k with
  | zero=>
   simp at hk
   subst hk
   rw[Xu,h'];rfl
  | succ k=>
   simp only[List.take_succ_cons,ZV,Bool.and_eq_true]at h
   rw[Xu,h.1]
   have:=ih k (by simpa using hk) h.2
   unfold lZ at this
   show(L.takeWhile gY).length+1=k+1
   rw[this]
theorem K7(L:List Fl)(h:L.all gY=true):lZ L=L.length:=by
 induction L with
 | nil=>rfl
 | cons g L ih=>
  simp only[ZV,Bool.and_eq_true]at h
  have:=ih h.2
  unfold lZ at this ⊢
  rw[Xu,h.1]
  show(L.takeWhile gY).length+1=L.length+1
  rw[this]
theorem Sz(L:List Fl)(k:Nat)(f:Fl)(hk:L[k]?=some f)(h:(L.take k).all gY=true)(h':gY f=true):(L.take (k+1)).all gY=true:=by
 rw[bV L k f hk,List.all_append,h];simp[h']
theorem Py(n v:ByteArray)(h:kP n.data.toList=false):gY (n,v)=false:=by unfold gY kG pb2;simp only;rw[h];rfl
theorem Rh(n v:ByteArray)(h:decide (ah n.data.toList=n.data.toList)=false):gY (n,v)=false:=by unfold gY kG pb2;simp only;rw[h];simp
theorem Qa(n v:ByteArray)(h:v.data.toList.all inC=false):gY (n,v)=false:=by unfold gY kG pb2;simp only;rw[h];simp
theorem QK(n v:ByteArray)(h1:kP n.data.toList=true)(h2:decide (ah n.data.toList=n.data.toList)=true)(h3:v.data.toList.all inC=true):gY (n,v)=true:=by unfold gY kG pb2;simp only;rw[h1,h2,h3];rfl
theorem QA(m:aa)(L:List Fl)(k:Nat)(f:Fl)(hk:L[k]?=some f):eQ m ((L.take (k+1)).map pb2)=eQ m ((L.take k).map pb2)++jE (pb2 f):=by
 unfold eQ
 rw[bV L k f hk];simp
theorem JX(v:aa):(wS v).length<=2*v.length+2:=by
 unfold wS
 split
 ·omega
 ·have:(v.flatMap vR).length<=2*v.length:=by
   induction v with
   | nil=>exact ZZ _
   | cons c v ih=>
    rw[VQ,GL,Ws]
    have:(vR c).length<=2:=by unfold vR;split<;>simp
    have h2:∀v:aa,(v.flatMap vR).length<=2*v.length:=by
     intro v
     induction v with
     | nil=>exact ZZ _
     | cons c v ih=>
      rw[VQ,GL,Ws]
      have:(vR c).length<=2:=by unfold vR;split<;>simp
      omega
    have:=h2 v
    omega
  simp only[Ws,GL,ZW]
  omega
theorem Nc(f:Fl)(h:f.1.size<=24300/\f.2.size<=24300):(jE (pb2 f)).length<=72905:=by
 have:=JX f.2.data.toList
 rw[ae]at this
 unfold jE pb2
 simp only[GL,Ws,ZW,ae]
 omega
theorem Mh(m:aa)(L:List Fl)(h:∀f∈L,f.1.size<=24300/\f.2.size<=24300):(eQ m (L.map pb2)).length<=m.length+L.length*72905:=by
 unfold eQ
 rw[GL]
 have:((L.map pb2).flatMap jE).length<=L.length*72905:=by
  induction L with
  | nil=>exact ZZ _
  | cons f L ih=>
   have h1:=Nc f (h f List.mem_cons_self)
   have h2:=ih fun g hg=>h g (List.mem_cons_of_mem _ hg)
   rw[ZX,VQ,GL,Ws]
   omega
 omega
theorem Ej(args:Array Value)(w:World):(callFunc 91 args).run prog w=.ok (.enter 91 args) w:=by simp[go_sem]
theorem Q6{ops:Array Oper}{o:Oper}{a:Act}{K:Act->World->Prop}{Q:Exit->Act->World->Prop}{E:Prop}(W w0:World)(hgd:o.guard=none)(s x:Operand)(ho:o.op=.call { callee:=.builtin .append,args:=#[s,x],argTypes:=#[32,9] })
  (B:Nat) (v:Value) (l:aa) (hs:a.eval s=v) (hown:jL W B v l) (t:ByteArray) (hx:a.eval x=.string t) (hl:l.length+t.size<=1000000000) (hB:B<=W.heap.size) (hb:Below B w0 W)
  (h:∀v' w',jL w' B v' (l++t.data.toList)->Below B w0 w'->K (a.put o.dst v') w'):if Region.wanted o (yielded ops a.tmps)=true then Oper.wp prog o a W K Q else E:=by
 have hw:Region.wanted o (yielded ops a.tmps)=true:=by simp[Region.wanted,hgd]
 rw[if_pos hw]
 obtain⟨v',w',hr,h2,h3,h4⟩:=hown.app t o.type hl hB
 unfold Oper.wp execOp
 simp only[ho,resolve,invoke,builtin,Sem.run_bind,Sem.run_pure,Result.andThen_ok,List.map_toArray,ZX,List.map_nil,hs,hx,hr]
 refine h v' w' h2 (hb.grown h3 hB ?_)
 obtain⟨g,cap,cur,fz,rfl,hBg,_⟩:=hown
 intro k hk
 simp[Value.ownBlock]at hk
 omega
def Yr(m:aa)(L:List Fl)(e:Ending)(w':World):Prop:=
 (qA m=false/\e=.returned (.tuple #[.string ⟨#[]⟩,.iface 25 (.int .i64 1)])) \/
 (qA m=true/\lZ L<L.length/\∃E,e=.returned (.tuple #[.string ⟨#[]⟩,E])/\Ty w' E 1 (lZ L)) \/
 (qA m=true/\L.all gY=true/\∃t:ByteArray,e=.returned (.tuple #[.string t,.nilIface])/\t.data.toList=eQ m (L.map pb2))
theorem vU(m:ByteArray)(v:Value)(L:List Fl)(w:World)(hm:m.size<=100000)(hM:Mid L)(hF:FL w v L)(hx:Max w):
  Calls prog 49 #[.string m,v] w fun e w'=>Yr m.data.toList L e w'/\Below w.heap.size w w':=by
 obtain⟨A,cap,rfl,hcap,hcells⟩:=hF
 have HC:=Box.m hcells
 have hlen:=hM.1
 have HM:=Box.m hM
 have HMx:=Box.m hx
 have hw0:=hx.1
 have hcv:=ze
 clear hcells hM hx
 go_enter func49,ntmps49
 go_wp2_with fail
 refine(Fa m _ hm HMx.o).mono ?_
 rintro e w1 ⟨rfl,hb1⟩
 cases him:lC m.data.toList
 ·have HG:Box (qA m.data.toList=false):=⟨by unfold qA;rw[him];rfl⟩
  clear him
  go_wp2
  go_ret2
  exact⟨.inl ⟨HG.o,rfl⟩,hb1⟩
 ·go_wp2_with fail
  refine(DD m _ (by omega)).mono ?_
  rintro e w2 ⟨rfl,hb2⟩
  have b2:=hb1.trans (hb2.mono hb1.size)
  have hsz2:=b2.size
  clear hb1 hb2
  cases hsm:decide (ah m.data.toList=m.data.toList)
  ·have HG:Box (qA m.data.toList=false):=⟨by unfold qA;rw[hsm,Bool.and_false]⟩
   clear him hsm
   go_wp2
   go_ret2
   exact⟨.inl ⟨HG.o,rfl⟩,b2⟩
  ·have HG:Box (qA m.data.toList=true):=⟨by unfold qA;rw[him,hsm];rfl⟩
   clear him hsm
   go_wp2
   clear hcv
   have hB0:=jL.bytes w2 ((w2.alloc (.cells (bytesRow m (grownCap w2 m.size 0 5)) 5 ((bytesRow m (grownCap w2 m.size 0 5)).size,(bytesRow m (grownCap w2 m.size 0 5)).size+1))).drew) w.heap.size m hsz2 (by omega) rfl
   have hb0:Below w.heap.size w ((w2.alloc (.cells (bytesRow m (grownCap w2 m.size 0 5)) 5 ((bytesRow m (grownCap w2 m.size 0 5)).size,(bytesRow m (grownCap w2 m.size 0 5)).size+1))).drew):=(b2.alloc hsz2 _).drew
   go_loopw [6,22] (fun x i wr=>∃(k:Nat) (o:aa),k<=L.length/\i=.int .i64 k/\jL wr w.heap.size x o/\Below w.heap.size w wr/\Box (o=eQ m.data.toList ((L.take k).map pb2))/\Box ((L.take k).all gY=true)) (fun _ i _=>L.length - (intOf i).toNat)
   case atStart=>exact⟨0,m.data.toList,Nat.zero_le _,rfl,hB0,hb0,⟨by unfold eQ;simp⟩,⟨rfl⟩⟩
   case round=>
    obtain⟨k,o,hk,rfl,hown,hb,HO,HA⟩:=hrel
    have hsz:=hb.size
    have hol:o.length<=600000000:=by
     have:=Mh m.data.toList (L.take k) (fun f hf=>HM.o.2 f (List.mem_of_mem_take hf))
     rw[<-HO.o,ae,List.length_take]at this
     have h2:min k L.length<=8000:=by omega
     have h3:min k L.length*72905<=8000*72905:=Nat.mul_le_mul_right _ h2
     omega
    by_cases hlt:k<L.length
    ·obtain⟨b,off,n,v,rfl,HN,_,_,hbl,d0,d1⟩:=HC.o.elem HM.o.tiny hb k hlt
     have hnv:=HM.o.2 (n,v) (List.mem_of_getElem? HN.o)
     obtain⟨hn,hv⟩:=hnv
     simp only at hn hv
     have hb3:=hb.alloc hsz (.cells #[.string n,.string v] 125)
     have hsz3:w.heap.size<=(wr.alloc (.cells #[.string n,.string v] 125)).heap.size:=by simp;omega
     clear HC HM
     go_wp2_with fail
     refine(mr n _).mono ?_
     rintro e w3 ⟨rfl,hb4⟩
     have b4:=hb3.trans (hb4.mono hsz3)
     have p0:w3.cell? ⟨wr.heap.size,0,none⟩=some (.string n):=(hb4.cell (p:=⟨wr.heap.size,0,none⟩) (by simp)).trans (by simp)
     have p1:w3.cell? ⟨wr.heap.size,1,none⟩=some (.string v):=(hb4.cell (p:=⟨wr.heap.size,1,none⟩) (by simp)).trans (by simp)
     have hP3:wr.heap.size<w3.heap.size:=by have:=hb4.size;simp at this;omega
     cases ht1:kP n.data.toList
     ·have HE:Box (lZ L=k):=⟨tF L k _ HN.o HA.o (Py n v ht1)⟩
      clear ht1 HN HA HO
      go_wp2
      exact bodyPost_ret (v:=.tuple #[.string ⟨#[]⟩,.iface 130 (.pointer (some ⟨w3.heap.size,0,none⟩))]) (by simp[results,results49,go_sem]) rfl ⟨.inr (.inl ⟨HG.o,by rw[HE.o];exact hlt,_,rfl,⟨_,rfl,by simp,by rw[HE.o];simp⟩⟩),b4.alloc b4.size _⟩
     ·go_wp2_with fail
      refine(DD n _ (by omega)).mono ?_
      rintro e w4 ⟨rfl,hb5⟩
      have b5:=b4.trans (hb5.mono b4.size)
      have q0:w4.cell? ⟨wr.heap.size,0,none⟩=some (.string n):=(hb5.cell (p:=⟨wr.heap.size,0,none⟩) hP3).trans p0
      have q1:w4.cell? ⟨wr.heap.size,1,none⟩=some (.string v):=(hb5.cell (p:=⟨wr.heap.size,1,none⟩) hP3).trans p1
      have hP4:wr.heap.size<w4.heap.size:=by have:=hb5.size;omega
      cases ht2:decide (ah n.data.toList=n.data.toList)
      ·have HE:Box (lZ L=k):=⟨tF L k _ HN.o HA.o (Rh n v ht2)⟩
       clear ht1 ht2 HN HA HO
       go_wp2
       exact bodyPost_ret (v:=.tuple #[.string ⟨#[]⟩,.iface 130 (.pointer (some ⟨w4.heap.size,0,none⟩))]) (by simp[results,results49,go_sem]) rfl ⟨.inr (.inl ⟨HG.o,by rw[HE.o];exact hlt,_,rfl,⟨_,rfl,by simp,by rw[HE.o];simp⟩⟩),b5.alloc b5.size _⟩
      ·go_wp2_with fail
       refine(Kn v _).mono ?_
       rintro e w5 ⟨rfl,hb6⟩
       have b6:=b5.trans (hb6.mono b5.size)
       have r0:w5.cell? ⟨wr.heap.size,0,none⟩=some (.string n):=(hb6.cell (p:=⟨wr.heap.size,0,none⟩) hP4).trans q0
       have r1:w5.cell? ⟨wr.heap.size,1,none⟩=some (.string v):=(hb6.cell (p:=⟨wr.heap.size,1,none⟩) hP4).trans q1
       have hP5:wr.heap.size<w5.heap.size:=by have:=hb6.size;omega
       cases ht3:v.data.toList.all inC
       ·have HE:Box (lZ L=k):=⟨tF L k _ HN.o HA.o (Qa n v ht3)⟩
        clear ht1 ht2 ht3 HN HA HO
        go_wp2
        exact bodyPost_ret (v:=.tuple #[.string ⟨#[]⟩,.iface 130 (.pointer (some ⟨w5.heap.size,0,none⟩))]) (by simp[results,results49,go_sem]) rfl ⟨.inr (.inl ⟨HG.o,by rw[HE.o];exact hlt,_,rfl,⟨_,rfl,by simp,by rw[HE.o];simp⟩⟩),b6.alloc b6.size _⟩
       ·have HA2:Box ((L.take (k+1)).all gY=true):=⟨Sz L k _ HN.o HA.o (QK n v ht1 ht2 ht3)⟩
        have HO2:Box (∀t:ByteArray,t.data.toList=wS v.data.toList->o++(((⟨#[59,32]⟩:ByteArray)++n++⟨#[61]⟩)++t).data.toList=eQ m.data.toList ((L.take (k+1)).map pb2)):=⟨fun t ht=>by
         rw[QA _ L k _ HN.o,<-HO.o]
         unfold jE pb2
         simp[ht]⟩
        have hown5:=((hown.below (ag.alloc af _) af).below (hb4.trans ((hb5.mono hb4.size).trans (hb6.mono (by have:=hb4.size;have:=hb5.size;omega)))) af:jL w5 w.heap.size u6 o)
        have hsz5:=b6.size
        clear ht1 ht2 ht3 HN HA HO hown hb3 hb4 hb5 hb6 p0 p1 q0 q1
        go_wp2
        have hownd:jL w5.drew w.heap.size u6 o:=hown5
        have hbd:=b6.drew
        have s0:w5.drew.cell? ⟨wr.heap.size,0,none⟩=some (.string n):=r0
        have s1:w5.drew.cell? ⟨wr.heap.size,1,none⟩=some (.string v):=r1
        have HMx5:=Box.m (HMx.o.below hbd hw0)
        have z1:¬9223372036854775807<2+n.size:=by omega
        have z2:¬9223372036854775807<2+n.size+1:=by omega
        go_region_law (first|(refine Q6 _ w rfl (.tmp 47) (.tmp 55) rfl w.heap.size u6 o (by simp[Act.eval,Act.put]) (by exact hown7) (((⟨#[59,32]⟩:ByteArray)++n++⟨#[61]⟩)++t) (by simp[Act.eval,Act.put]) (by exact HL.o) (by exact hsz7) (by exact b7) ?_;intro v8 w8 hown8 hb8)|(refine Nr rfl 91 Ej (.tmp 53) 9 rfl (.string v) (by simp[Act.eval,Act.put]) (fun r w'=>∃t:ByteArray,r=.string t/\t.data.toList=wS v.data.toList/\t.size<=4*v.size+2/\Below w5.drew.heap.size w5.drew w') ((Ib v _ (by omega) HMx5.o).mono (by rintro e w' ⟨t,rfl,h1,h2,h3⟩;exact⟨_,rfl,t,rfl,h1,h2,h3⟩)) ?_;rintro r w7 ⟨t,rfl,ht,hts,hb7⟩;have b7:=hbd.trans (hb7.mono hsz5);have hsz7:=b7.size;have hown7:=hownd.below hb7 af;have t0:w7.cell? ⟨wr.heap.size,0,none⟩=some (.string n):=(hb7.cell (p:=⟨wr.heap.size,0,none⟩) hP5).trans s0;have t1:w7.cell? ⟨wr.heap.size,1,none⟩=some (.string v):=(hb7.cell (p:=⟨wr.heap.size,1,none⟩) hP5).trans s1;have z3:¬9223372036854775807<2+n.size+1+t.size:=(by omega);have HTt:=Box.m ht;have HL:Box (o.length+(((⟨#[59,32]⟩:ByteArray)++n++⟨#[61]⟩)++t).size<=1000000000):=⟨by(rw[Z0,Z0,Z0];show o.length+(2+n.size+1+t.size)<=_;omega)⟩;clear ht))
        all_goals
         have HO3:=Box.m (HO2.o t HTt.o)
         clear HO2 HTt
         go_wp2
         go_roundw
         case rel=>exact⟨k+1,_,by omega,by go_num,hown8,hb8,HO3,HA2⟩
         case measure=>simp[intOf];omega
    ·have HE:Box (L.all gY=true):=⟨by rw[<-HA.o,ZY (by omega)]⟩
     have HO':Box (o=eQ m.data.toList (L.map pb2)):=⟨by rw[HO.o,ZY (by omega)]⟩
     have hcs:=hown.string
     clear HA HO HC HM
     go_wp2
     go_ret2
     exact⟨.inr (.inr ⟨HG.o,HE.o,_,rfl,HO'.o⟩),hb⟩
end Go.Proofs.YtkldkhdigkpniaaGreatDoor
