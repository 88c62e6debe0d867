import Derived.Test.YtkldkhdigkpniaaGreatDoorZ31
import Derived.Deep.RegionHeld3
set_option maxHeartbeats 8000000
set_option maxRecDepth 100000
open List renaming map_cons → GL, length_append → VQ, map_nil → Ws, map_append → Xu, length_map → ZV, length_cons → ZW, mem_singleton → ZX, mem_cons → ZY, mem_map_of_mem → ZZ, length_filter_le → Z0, mem_filter → Z4, length_take → Z5, length_reverse → Z6, length_nil → Z7
open Nat renaming le_refl → Z8
open Bool renaming and_eq_true → Z9
open Option renaming bind_eq_some_iff → aaa
namespace Go.Proofs.YtkldkhdigkpniaaGreatDoor
open Go.RowKit Go.Proofs.Tryz
theorem UK{ops:Array Oper}{rest:List Oper}{o:Oper}{a:Act}{Q:Exit->Act->World->Prop}(W:World)(hgd:o.guard=none)(s x:Operand)(ho:o.op=.call { callee:=.builtin .append,args:=#[s,x],argTypes:=#[52,52] })
  (B:Nat) (v:Value) (L:List ByteArray) (hs:a.eval s=v) (hown:aV W B v L) (b c:Nat) (t:ByteArray) (hx:a.eval x=.slice (some ⟨b,0,none⟩) 1 c) (h0:W.cell? ⟨b,0,none⟩=some (.string t)) (hl:L.length+1<=1000000) (hB:B<=W.heap.size)
  (h:∀v' w',aV w' B v' (L++[t])->W.grownBy w' v.ownBlock->(v'.ownBlock=v.ownBlock\/v'.ownBlock=some W.heap.size)->wpList prog ops Q rest (a.put o.dst v') w'):wpList prog ops Q (o::rest) a W:=by
 refine wpList_plain hgd fun _ hK=>?_
 obtain⟨i0,hi,hz0,hz1,hz2⟩:=info_parts Tryz.infoStr
 have hne:∀j u,[Value.string t][j]?=some u->W.cell? ((⟨b,0,none⟩:Addr).add j)=some u:=by
  intro j u hj
  have hjl:j<1:=(List.getElem?_eq_some_iff.1 hj).1
  rw[Addr.add_lit,Nat.zero_add]
  match j,hjl,hj with
  | 0,_,hj=>rw[h0];exact hj
 have hone:∀u∈[Value.string t],u.oneCell'=true:=by
  intro u hu
  rw[ZX.1 hu];rfl
 obtain⟨v',w',hr,k2,k3,_⟩:=run_append_own (P:=prog) W B 52 o.type 9 i0 (.string ⟨#[]⟩) 1 16 underlying52 hi hz0 hz1 hz2 rfl (by decide) v L.length (L.map Value.string) hown ⟨b,0,none⟩ 1 c [.string t] rfl hne hone (by unfold maxLen;omega) (by omega) hB
 have hblk:=qJ W B 52 o.type 9 i0 (.string ⟨#[]⟩) 1 16 underlying52 hi hz0 hz1 hz2 v L.length (L.map Value.string) hown ⟨b,0,none⟩ 1 c [.string t] rfl hne hone (by decide) (by unfold maxLen;omega) (by omega) v' w' hr
 unfold Oper.wp execOp
 simp only[ho,resolve,invoke,builtin,Sem.run_bind,Sem.run_pure,Result.andThen_ok,List.map_toArray,GL,Ws,hs,hx,hr]
 refine hK _ _ (h v' w' ?_ k3 hblk)
 unfold aV
 rw[VQ,Xu]
 exact k2
theorem RZ(xs:List (aa)):KV (jJ xs):=by
 unfold jJ
 split
 ·have e:Ao 0=[98,48]:=by
   unfold Ao
   rw[Lib.decDigits]
   rfl
  rw[e]
  refine⟨by simp,by simp,?_⟩
  intro c hc
  have:c=98\/c=48:=by simpa using hc
  rcases this with rfl|rfl<;>decide
 ·exact Me xs (by omega)
theorem Tab.gr{w w':World}{bc:Nat}(h:Tab w)(hg:w.grownBy w' (some bc))(hc:1<bc)(hl:bc<w.heap.size):Tab w':=h.below (iX hg af hl) hc
def U6(d:Nat):Prop:=∀(D:Nat) (p:PT) (v:P4) (n bc k:Nat) (w:World) (S:Nat->Prop),(∀i,S i->i≠bc)->PV w S D v p->SmT D p->n<=40->k+d=4->CI w bc n->mg w->Tab w->GB bc->1<bc ->
  Calls prog 138 #[.pointer (some ⟨bc,0,none⟩),v.v,.int .i64 k] w fun e w'=>yO (dY d n p) bc e w'/\w.grownBy w' (some bc)
def NY(O:Except Nat (List (aa)×Nat))(L:List PB)(bc:Nat)(e:Ending)(w':World):Prop:=
 match O with
 | .error c=>e=.returned (.tuple #[.string ⟨#[]⟩,.iface 25 (.int .i64 c)])
 | .ok r=>∃S:ByteArray,e=.returned (.tuple #[.string S,.nilIface])/\S.data.toList=nH (iQ (jJ r.1) L)++gK (jJ r.1) r.1/\CI w' bc r.2
def tY(lh:List Fl):Prop:=lh.length<=3000/\(∀f∈lh,f.1.size<=8000/\f.2.size<=8000)/\hsz (lh.map fl2)<=30000
theorem tY.tiny{lh:List Fl}(h:tY lh):lW lh:=⟨by have:=h.1;omega,fun f hf=>by have:=h.2.1 f hf;omega⟩
theorem RG(xs:List (aa))(x:aa):rX (xs++[x])=rX xs+(x.length+100):=by
 induction xs with
 | nil=>simp[rX]
 | cons y xs ih=>rw[List.cons_append,mM,mM,ih];omega
theorem Ua(ss:List ByteArray)(x:ByteArray)(hx:x∈ss):x.size<=rX (ss.map lst):=by
 induction ss with
 | nil=>cases hx
 | cons y ss ih=>
  rw[GL,mM]
  rcases ZY.1 hx with rfl|hx
  ·unfold lst;rw[ae];omega
  ·have:=ih hx;omega
theorem UN(E:aa)(hE:KV E)(lh M:List Fl)(hsh:tY lh)(hR:(lh.map fl2).all dZ=true)(b:Option (aa))(hmn:aS (lh.map fl2)=.ok b)(hM:M.map fl2=iQ E (lh.map fl2)):Mid M/\iE M=M.length/\(bW M).length<=1000000:=by
 obtain⟨c1,c2⟩:=Rn E (lh.map fl2) 8000 8000 (by
  intro f hf
  obtain⟨g,hg,rfl⟩:=List.mem_map.1 hf
  have:=hsh.2.1 g hg
  unfold fl2
  simp only
  rw[ae,ae]
  exact this)
 rw[<-hM,ZV,ZV]at c1
 have hs:∀f∈M,f.1.size<=24300/\f.2.size<=24300:=by
  intro f hf
  have:=c2 (fl2 f) (by rw[<-hM];exact ZZ hf)
  have hl:=hE.2.1
  unfold fl2 at this
  simp only at this
  rw[ae,ae]at this
  omega
 have hl:=hsh.1
 refine⟨⟨by omega,hs⟩,?_,?_⟩
 ·have h1:=RV E hE (lh.map fl2) hR (Jo _ b hmn)
  rw[<-hM,oG]at h1
  exact of_decide_eq_true h1
 ·have h3:=si M
  have h4:=F3 E (lh.map fl2)
  rw[hM]at h3
  have h5:=hE.2.1
  have h6:=hsh.2.2
  omega
theorem BV(d:Nat)(ih:U6 d)(D:Nat)(A:Option Addr)(n1 c1:Nat)(bb:ByteArray)(A2:Option Addr)(cap2:Nat)(lh:List Fl)(ps:List PT)(b:aa)(n bc k:Nat)(w:World)(S:Nat->Prop)(hS:∀i,S i->i≠bc)(hF:FLB w S (.slice A n1 c1) lh)(hsh:tY lh)(hR:(lh.map fl2).all dZ=true)(hmn:aS (lh.map fl2)=.ok (some b))
  (hl:ps.length<=60) (hps:∀k (hk:k<ps.length),∃q,PC w S A2 k q/\PV w S D q ps[k]) (hsm:∀p∈ps,SmT D p) (hn:n<=40) (hk:k+d=4) (hc:CI w bc n) (hG:mg w) (hT:Tab w) (hbc:GB bc) (hbt:1<bc) :
  Calls prog 198 #[.pointer (some ⟨bc,0,none⟩),.agg #[.slice A n1 c1,.string bb,.bool true,.slice A2 ps.length cap2],.int .i64 k] w fun e w'=>NY (dA (dY d) ps n) (lh.map fl2) bc e w'/\w.grownBy w' (some bc):=by
 obtain⟨R,HR⟩:∃R,Box (R=dA (dY d) ps n):=⟨_,⟨rfl⟩⟩
 rw[<-HR.o]
 have HA:Box (xk (dY d) ps R 0 n []):=⟨by rw[HR.o];exact FH _ _ _⟩
 have hbl:=hc.lt
 obtain⟨W,HW⟩:∃W,Box (W=w.alloc (jr (.slice A n1 c1) (.string bb) (.bool true) (.slice A2 ps.length cap2))):=⟨_,⟨rfl⟩⟩
 have hb0:Below w.heap.size w W:=by rw[HW.o];exact aD w _
 have hszW:W.heap.size=w.heap.size+1:=by rw[HW.o];exact iC w _
 have hkW:W.heap[w.heap.size]?=some (jr (.slice A n1 c1) (.string bb) (.bool true) (.slice A2 ps.length cap2)):=by rw[HW.o];exact bG w _
 have HKW:=Box.m hkW
 have HC:=Box.m (hc.below hb0 hc.lt)
 have HG:=Box.m (hG.below hb0 hG.gb)
 have HT:=Box.m (hT.below hb0 hT.lt)
 have HF:=Box.m hF
 have HSh:=Box.m hsh
 have HRt:=Box.m hR
 have HMn:=Box.m hmn
 have HP:=Box.m hps
 have HSm:=Box.m hsm
 have IH:=Box.m ih
 have HSS:=Box.m hS
 clear hc hG hT hF hsh hR hmn hps hsm ih hkW hS
 go_enter func198,ntmps198
 go_wp2
 rw[<-HW.o]
 go_loopw [8,19] (fun v i wr=>∃(j c:Nat) (ss:List ByteArray),j<=ps.length/\i=.int .i64 j/\ss.length<=j/\c<=40/\n<=c/\Box (aV wr W.heap.size v ss)/\Box (CI wr bc c)/\W.grownBy wr (some bc)/\Box (xk (dY d) ps R j c (ss.map lst))/\Box (rX (ss.map lst)<=(c - n)*1000000)) (fun _ i _=>ps.length - (intOf i).toNat)
 case atStart=>exact⟨0,n,[],Nat.zero_le _,rfl,Z8 _,hn,Z8 _,⟨aV.nil _ _⟩,HC,ak ag _,HA,⟨by simp[rX]⟩⟩
 case round=>
  obtain⟨j,c,ss,hj,rfl,hss,hc40,hnc,hO,hC,hg,HI,HX⟩:=hrel
  have hsz:=hg.size
  have hg0:w.grownBy wr (some bc):=aO (ak hb0 _) hg
  have HGr:=Box.m (HG.o.gr hg hbc (by omega))
  have HTr:=Box.m (HT.o.gr hg hbt (by omega))
  by_cases hlt:j<ps.length
  ·obtain⟨q,⟨b1,o1,hA2,hb1,r0,r1,r2,r3⟩,hv1⟩:=HP.o j hlt
   subst hA2
   obtain⟨E1,m1,g1,bb1,mm1,E2,m2,g2,rfl⟩:=hv1.shape
   have hab:Abv S w wr:=nQ hg0 (fun i hi e=>HSS.o i hi (Option.some.inj e))
   have r0':=hab.cell (p:=⟨b1,o1+j*4,none⟩) hb1 r0
   have r1':=hab.cell (p:=⟨b1,o1+j*4+1,none⟩) hb1 r1
   have r2':=hab.cell (p:=⟨b1,o1+j*4+2,none⟩) hb1 r2
   have r3':=hab.cell (p:=⟨b1,o1+j*4+3,none⟩) hb1 r3
   simp only at r0' r1' r2' r3'
   have hba:=aD wr (jr (.slice E1 m1 g1) (.string bb1) (.bool mm1) (.slice E2 m2 g2))
   have HV:=Box.m (PV.abv (dM hba) _ _ _ (PV.abv hab _ _ _ hv1))
   have HCa:=Box.m (hC.o.below hba hC.o.lt)
   have HGa:=Box.m (HGr.o.below hba HGr.o.gb)
   have HTa:=Box.m (HTr.o.below hba HTr.o.lt)
   have HOa:=Box.m (hO.o.below hba af)
   have hgj:ps[j]?=some ps[j]:=List.getElem?_eq_getElem hlt
   have HGj:=Box.m hgj
   have HSj:=Box.m (HSm.o ps[j] (List.getElem_mem hlt))
   clear hv1 r0 r1 r2 r3 hgj hab HP
   obtain⟨x,hx⟩:∃x,x=ps[j]:=⟨_,rfl⟩
   rw[<-hx]at HGj HSj HV
   clear hx
   go_wp2_with fail
   refine(IH.o D x (.slice E1 m1 g1,.string bb1,.bool mm1,.slice E2 m2 g2) c bc k _ S HSS.o HV.o HSj.o hc40 hk HCa.o HGa.o HTa.o hbc hbt).mono ?_
   rintro e w2 ⟨hR2,hg2⟩
   have hg02:=aO (aO hg (ak hba _)) hg2
   have hsz2:=hg2.size
   have hsza:(wr.alloc (jr (.slice E1 m1 g1) (.string bb1) (.bool mm1) (.slice E2 m2 g2))).heap.size=wr.heap.size+1:=iC wr _
   clear HV HCa HGa HTa hC HGr HTr r0' r1' r2' r3'
   unfold yO at hR2
   cases hq:dY d c x with
   | error z=>
    rw[hq]at hR2
    obtain rfl:=hR2
    have HE:=Box.m (Ob HI.o _ HGj.o z hq)
    clear HI hq HGj hO HX IH HSm HKW HA HG HC HF HOa HSj
    go_wp2
    go_ret2
    refine⟨?_,aO (ak hb0 _) hg02⟩
    rw[HE.o]
    rfl
   | ok q=>
    rw[hq]at hR2
    obtain⟨T,rfl,hTq,hC2⟩:=hR2
    have hql:=Ct d D c x q HSj.o hq
    have HI':=Box.m (TQ HI.o _ HGj.o q hq)
    have HX':Box (rX ((ss++[T]).map lst)<=(q.2 - n)*1000000):=⟨by
     rw[Xu,GL,Ws,RG]
     have h1:=HX.o
     have h2:(lst T).length=q.1.length:=by unfold lst;rw[hTq]
     omega⟩
    have hI2:xk (dY d) ps R (j+1) q.2 ((ss++[T]).map lst):=by
     have:=HI'.o
     rw[<-hTq]at this
     simpa[lst]using this
    have HI2:=Box.m hI2
    have HC2:=Box.m hC2
    have HO2:=Box.m (aV.kept HOa.o hg2 (by omega))
    have hq40:=hql.2.1
    have hqn:n<=q.2:=by omega
    obtain⟨c2,hc2⟩:∃c2,c2=q.2:=⟨_,rfl⟩
    rw[<-hc2]at HX' HI2 HC2 hq40 hqn
    clear HI hq HGj hO HX HOa HSj hql HI' hI2 hTq hC2 hc2
    go_wp2_with (at_builtin;refine UK _ rfl (.tmp 33) (.tmp 35) rfl W.heap.size _ ss rfl (aV.below HO2.o (ag.alloc af _) af) _ _ T rfl (by simp) (by omega) (by simp;omega) ?_;intro v3 w3 hown3 hg3 hv3)
    go_roundw
    case rel=>
     have hne:∀i,some i=Value.ownBlock u8->W.heap.size<=i/\i≠bc:=fun i e=>by have:=(HO2.o.lt i e.symm).1;omega
     have hg23:w2.grownBy w3 (Value.ownBlock u8):=aO (ak (aD w2 _) _) hg3
     refine⟨j+1,c2,ss++[T],by omega,by go_num,by simp;omega,hq40,hqn,⟨hown3⟩,⟨HC2.o.own hg23 (fun e=>(hne bc e).2 rfl)⟩,Um hg02 hg23 (fun i e=>(hne i e.symm).1),HI2,HX'⟩
    case measure=>simp[intOf];omega
  ·have hje:R=.ok (ss.map lst,c):=OD HI.o (by omega)
   have HRe:=Box.m hje
   have hX:=HX.o
   have hsum:rX (ss.map lst)<=40000000:=by omega
   have hflat:Al ss<=1000000000:=by have:=Iw (ss.map lst);unfold Al;omega
   have HXs:Box (∀x∈ss,x.size<=1000000000):=⟨fun x hx=>by have:=Ua ss x hx;omega⟩
   have hk0:=(hg.block w.heap.size (by omega) (by simp;omega)).trans HKW.o
   have HF0:=Box.m (HF.o.abv (nQ hg0 (fun i hi e=>HSS.o i hi (Option.some.inj e))))
   obtain⟨E,HE⟩:∃E,Box (E=jJ (ss.map lst)):=⟨_,⟨rfl⟩⟩
   clear HI HX hX hje HP HSm IH HA HF
   go_wp2_with fail
   refine(RO _ ss W.heap.size _ hO.o (by omega) HXs.o hflat HGr.o.mx HTr.o).mono ?_
   rintro e w2 ⟨EB,rfl,hEB,hb2⟩
   rw[<-HE.o]at hEB
   have hEok:KV EB.data.toList:=by rw[hEB,HE.o];exact RZ _
   have hEs:EB.size<=70:=by rw[<-ae];exact hEok.2.1
   have hk2:=(hb2.block w.heap.size (by omega)).trans hk0
   obtain⟨x0,x1,x2,x3,xf⟩:=ic hk2
   have HF2:=Box.m (HF0.o.abv (dM hb2))
   have HG2:=Box.m (HGr.o.below hb2 HGr.o.gb)
   have HO2:=Box.m (hO.o.below hb2 af)
   have HC2:=Box.m (hC.o.below hb2 hC.o.lt)
   have hg02:=aO hg0 (ak hb2 _)
   have hsz2:=hb2.size
   have HEok:=Box.m hEok
   have HEB:=Box.m hEB
   clear HF0 HGr hO hC hk0 hEok hEB HTr hg0
   go_wp2_with fail
   refine(rR _ lh _ HSh.o.tiny HF2.o.fl HG2.o.nm).mono ?_
   rintro e w3 ⟨v3,rfl,hO3,hb3⟩
   obtain⟨f,q,hq1,hq2,hfm,hq4,hq5⟩:=Ps lh b HMn.o
   have HQ1:=Box.m hq1
   have HQ2:=Box.m hq2
   have HQ4:=Box.m hq4
   have HQ5:=Box.m hq5
   have HO3:=Box.m hO3
   have HG3:=Box.m (HG2.o.below hb3 HG2.o.gb)
   have hgb2:=HG2.o.gb
   have hff:=(HSh.o.2.1 f hfm).2
   have HTf:Box (lW (lh.filter fun f=>!bL f)):=⟨⟨by have:=Z0 (fun f=>!bL f) lh;have:=HSh.o.1;omega,fun g hg=>by have:=HSh.o.2.1 g (Z4.1 hg).1;omega⟩⟩
   clear hq1 hq2 hq4 hq5 hO3 HF2 x0 x1 x2 x3 xf hk2
   go_wp2_with fail
   refine(Ig v3 (lh.filter fun f=>!bL f) EB w2.heap.size _ _ f q HTf.o HO3.o hgb2 hb3.size HG3.o rfl HQ1.o HQ2.o (by omega) HQ4.o HQ5.o hEs (OO HEok.o)).mono ?_
   rintro e w4 ⟨V,rfl,hV,hO4,hb4⟩
   obtain⟨M,HM⟩:∃M,Box (M=(lh.filter fun f=>!bL f).set (aM (fun f=>!ji f) (lh.filter fun f=>!bL f)) (f.1,V)):=⟨_,⟨rfl⟩⟩
   rw[<-HM.o]at hO4
   have HMs:Box (M.map fl2=iQ EB.data.toList (lh.map fl2)):=⟨by rw[HM.o];exact Bb _ V lh _ f rfl HQ2.o hV⟩
   obtain⟨hMid,hfw,hfb⟩:=UN EB.data.toList HEok.o lh M HSh.o HRt.o _ HMn.o HMs.o
   have HMid:=Box.m hMid
   have HFw:=Box.m hfw
   have hb24:=hb3.trans hb4
   have HO4:=Box.m (HO2.o.below hb24 af)
   have HC4:=Box.m (HC2.o.below hb24 HC2.o.lt)
   have hg04:=aO hg02 (ak hb24 _)
   have HOM:=Box.m hO4
   have hpl:(gK EB.data.toList (ss.map lst)).length<=1000000000:=by have:=CU EB.data.toList HEok.o.2.1 (ss.map lst);omega
   have HPl:=Box.m hpl
   clear hMid hfw hV hO4 HM HQ1 HQ2 HQ4 HQ5 HTf HO3 HG3 HO2 HC2 HG2 hg02 hpl HSh HRt HMn HKW
   go_wp2_with fail
   refine(Q7 _ ss EB W.heap.size _ HO4.o HPl.o (by omega) (by omega) HXs.o).mono ?_
   rintro e w5 ⟨J,rfl,hJ,hb5⟩
   have HOM5:=Box.m (HOM.o.below hb5 af)
   have hJs:J.size<=1000000000:=by rw[<-ae,hJ];exact HPl.o
   have HC5:=Box.m (HC4.o.below hb5 HC4.o.lt)
   have hg05:=aO hg04 (ak hb5 _)
   have HJ:=Box.m hJ
   clear HOM HC4 hJ HO4 HXs hg04
   go_wp2_with fail
   refine(sD v3 M J _ HMid.o HOM5.o.fl HFw.o hJs (by omega)).mono ?_
   rintro e w6 ⟨T,rfl,hTT,hb6⟩
   have HTT:Box (T.data.toList=nH (iQ (jJ (ss.map lst)) (lh.map fl2))++gK (jJ (ss.map lst)) (ss.map lst)):=⟨by rw[hTT,HJ.o,<-Fb,HMs.o,HEB.o,HE.o]⟩
   have HC6:=Box.m (HC5.o.below hb6 HC5.o.lt)
   have hg06:=aO hg05 (ak hb6 _)
   clear hTT HJ HMs HMid HFw HOM5 HC5
   go_wp2
   go_ret2
   refine⟨?_,hg06⟩
   rw[HRe.o]
   exact⟨T,rfl,HTT.o,HC6.o⟩
theorem Ub{L:List PB}{b:aa}{n:Nat}(h:xg L b true n=true):L.all dZ=true/\(∃e,aS L=.ok (some e))/\b=[]:=by
 unfold xg at h
 simp only[Z9]at h
 obtain⟨h1,h2⟩:=h
 refine⟨h1,?_⟩
 cases hm:aS L with
 | error c=>rw[hm]at h2;cases h2
 | ok o=>
  rw[hm]at h2
  simp only[Z9,beq_iff_eq,if_true]at h2
  cases o with
  | none=>cases h2.1
  | some e=>exact⟨⟨e,rfl⟩,by simpa using h2.2⟩
theorem Xg{L:List PB}{b:aa}{n:Nat}(h:xg L b false n=true):L.all dZ=true/\aS L=.ok none/\n=0:=by
 unfold xg at h
 simp only[Z9]at h
 obtain⟨h1,h2⟩:=h
 refine⟨h1,?_⟩
 cases hm:aS L with
 | error c=>rw[hm]at h2;cases h2
 | ok o=>
  rw[hm]at h2
  simp only[Z9,beq_iff_eq]at h2
  cases o with
  | some e=>cases h2.1
  | none=>exact⟨rfl,by simpa using h2.2⟩
theorem Iz(d:Nat)(ih:U6 d)(D:Nat)(A:Option Addr)(n1 c1:Nat)(bb:ByteArray)(A2:Option Addr)(cap2:Nat)(lh:List Fl)(ps:List PT)(n bc k:Nat)(w:World)(S:Nat->Prop)(hS:∀i,S i->i≠bc)(hF:FLB w S (.slice A n1 c1) lh)(hsh:tY lh)
  (hl:ps.length<=60) (hps:∀k (hk:k<ps.length),∃q,PC w S A2 k q/\PV w S D q ps[k]) (hsm:∀p∈ps,SmT D p) (h40:¬40<=n) (hk:k+(d+1)=4) (hc:CI w bc n) (hG:mg w) (hT:Tab w) (hbc:GB bc) (hbt:1<bc)
  (hmay:xg (lh.map fl2) bb.data.toList true ps.length=true) :
  Calls prog 138 #[.pointer (some ⟨bc,0,none⟩),.agg #[.slice A n1 c1,.string bb,.bool true,.slice A2 ps.length cap2],.int .i64 k] w fun e w'=>NY (dA (dY d) ps (n+1)) (lh.map fl2) bc e w'/\w.grownBy w' (some bc):=by
 obtain⟨hR,⟨b,hmn⟩,-⟩:=Ub hmay
 obtain⟨R,HRR⟩:∃R,Box (R=dA (dY d) ps (n+1)):=⟨_,⟨rfl⟩⟩
 rw[<-HRR.o]
 have hH:uW lh:=⟨by have:=hsh.1;omega,fun f hf=>by have:=hsh.2.1 f hf;omega⟩
 have hb0:=aD w (jr (.slice A n1 c1) (.string bb) (.bool true) (.slice A2 ps.length cap2))
 have HC:=Box.m (hc.below hb0 hc.lt)
 have hbl:=hc.lt
 have HG:=Box.m (hG.below hb0 hG.gb)
 have HT:=Box.m (hT.below hb0 hT.lt)
 have HF:=Box.m (hF.abv (dM hb0))
 have HP:Box (∀k (hk:k<ps.length),∃q,PC (w.alloc (jr (.slice A n1 c1) (.string bb) (.bool true) (.slice A2 ps.length cap2))) S A2 k q/\PV (w.alloc (jr (.slice A n1 c1) (.string bb) (.bool true) (.slice A2 ps.length cap2))) S D q ps[k]):=⟨fun k hk=>by
  obtain⟨q,h1,h2⟩:=hps k hk
  exact⟨q,h1.abv (dM hb0),PV.abv (dM hb0) _ _ _ h2⟩⟩
 have HSm:=Box.m hsm
 have HH:=Box.m hH
 have HSh:=Box.m hsh
 have HR:=Box.m hR
 have HMn:=Box.m hmn
 have HMy:=Box.m hmay
 have IH:=Box.m ih
 have HSS:=Box.m hS
 clear hc hG hT hF hH hmay hps hsm hsh hR hmn ih hS
 go_enter func138,ntmps138
 go_wp2_with fail
 refine(uU bc n k _ HC.o h40 (by omega)).mono ?_
 rintro e w1 ⟨rfl,hC1,hg1⟩
 have hsz1:=hg1.size
 have hk1:=(hg1.block w.heap.size (by simp) (by simp;omega)).trans (bG w (jr (.slice A n1 c1) (.string bb) (.bool true) (.slice A2 ps.length cap2)))
 obtain⟨x0,x1,x2,x3,xf⟩:=ic hk1
 have HG1:=Box.m (HG.o.gr hg1 hbc (by simp;omega))
 have HT1:=Box.m (HT.o.gr hg1 hbt (by simp;omega))
 have hab1:=nQ (S:=S) hg1 (fun i hi e=>HSS.o i hi (Option.some.inj e))
 have HF1:=Box.m (HF.o.abv hab1)
 have HP1:Box (∀k (hk:k<ps.length),∃q,PC w1 S A2 k q/\PV w1 S D q ps[k]):=⟨fun k hk=>by
  obtain⟨q,h1,h2⟩:=HP.o k hk
  exact⟨q,h1.abv hab1,PV.abv hab1 _ _ _ h2⟩⟩
 have hg01:=aO (ak hb0 (some bc)) hg1
 have HC1:=Box.m hC1
 clear HC HG HF HP HT hC1 hab1
 go_wp2_with fail
 refine(yA A n1 c1 bb true A2 ps.length cap2 lh _ HH.o HF1.o.fl HG1.o.mx HG1.o.nm (by omega)).mono ?_
 rintro e w2 ⟨rfl,hb2⟩
 rw[HMy.o]
 have hsz2:=hb2.size
 have hk2:=(hb2.block w.heap.size (by simp at hsz1;omega)).trans hk1
 clear x0 x1 x2 x3 xf
 obtain⟨x0,x1,x2,x3,xf⟩:=ic hk2
 have HG2:=Box.m (HG1.o.below hb2 HG1.o.gb)
 have HT2:=Box.m (HT1.o.below hb2 HT1.o.lt)
 have HF2:=Box.m (HF1.o.abv (dM hb2))
 have HC2:=Box.m (HC1.o.below hb2 HC1.o.lt)
 have HP2:Box (∀k (hk:k<ps.length),∃q,PC w2 S A2 k q/\PV w2 S D q ps[k]):=⟨fun k hk=>by
  obtain⟨q,h1,h2⟩:=HP1.o k hk
  exact⟨q,h1.abv (dM hb2),PV.abv (dM hb2) _ _ _ h2⟩⟩
 have hg02:=aO hg01 (ak hb2 _)
 clear HG1 HT1 HF1 HC1 HP1 hg01 hk1 HMy HH
 go_wp2_with fail
 refine(BV d IH.o D A n1 c1 bb A2 cap2 lh ps b (n+1) bc (k+1) _ S HSS.o HF2.o HSh.o HR.o HMn.o hl HP2.o HSm.o (by omega) (by omega) HC2.o HG2.o HT2.o hbc hbt).mono ?_
 rintro e w3 ⟨hP,hg3⟩
 have hg03:=aO hg02 hg3
 clear HG2 HT2 HF2 HC2 HP2 hk2 IH
 rw[<-HRR.o]at hP
 unfold NY at hP
 clear HRR
 cases R with
 | error c=>
  obtain rfl:=hP
  go_wp2
  go_ret2
  exact⟨rfl,hg03⟩
 | ok r=>
  obtain⟨T,rfl,hT,hC3⟩:=hP
  have HTT:=Box.m hT
  have HC3:=Box.m hC3
  clear hT hC3
  go_wp2
  go_ret2
  exact⟨⟨T,rfl,HTT.o,HC3.o⟩,hg03⟩
theorem Da{w:World}{B C:Nat}{v:Value}{L:List Fl}(h:bJ w C v L)(hB:B<=C):bJ w B v L:=by
 obtain⟨h1,h2⟩:=h
 refine⟨h1,?_⟩
 rcases h2 with h2|⟨g,cap,cur,a,b,c⟩
 ·exact .inl h2
 ·exact .inr ⟨g,cap,cur,a,Nat.le_trans hB b,c⟩
theorem FL.bel{w w':World}{v:Value}{L:List Fl}(h:FL w v L)(hb:Below w.heap.size w w'):FL w' v L:=h.below hb af
theorem Ui{W w':World}{p q:Addr}{u v:Value}(h0:W.cell? p=some u)(h1:W.cell? q=some v)(hb:Below W.heap.size W w'):w'.cell? p=some u/\w'.cell? q=some v/\Below W.heap.size W w':=
 ⟨(hb.cell (p:=p) (World.block_lt_of_cell? W _ h0)).trans h0,(hb.cell (p:=q) (World.block_lt_of_cell? W _ h1)).trans h1,hb⟩
theorem WI(how:ByteArray)(hh:how.size<=16)(lh:List Fl)(hsh:tY lh)(hR:(lh.map fl2).all dZ=true)(hw:dZ (uZ,how.data.toList)=true):Mid ((lh.filter fun f=>!bL f)++[(jO,how)])/\iE ((lh.filter fun f=>!bL f)++[(jO,how)])=((lh.filter fun f=>!bL f)++[(jO,how)]).length/\(bW ((lh.filter fun f=>!bL f)++[(jO,how)])).length<=1000000:=by
 have h1:=Z0 (fun f=>!bL f) lh
 have h2:=hsh.1
 have hs:∀f∈(lh.filter fun f=>!bL f)++[(jO,how)],f.1.size<=24300/\f.2.size<=24300:=by
  intro f hf
  rcases List.mem_append.1 hf with hf|hf
  ·have:=hsh.2.1 f (Z4.1 hf).1;omega
  ·rw[ZX.1 hf]
   exact⟨(by decide:jO.size<=24300),by simp only;omega⟩
 have hl:((lh.filter fun f=>!bL f)++[(jO,how)]).length<=3001:=by rw[VQ,List.length_singleton];omega
 refine⟨⟨by omega,hs⟩,?_,?_⟩
 ·have h3:(((lh.filter fun f=>!bL f)++[(jO,how)]).map fl2).all dZ=true:=by
   rw[Xu,mh,List.all_append,Aj _ hR]
   have:fl2 (jO,how)=(uZ,how.data.toList):=rfl
   simp only[GL,Ws,List.all_cons,List.all_nil,this,hw,Bool.and_true]
  rw[oG]at h3
  exact of_decide_eq_true h3
 ·have h3:=si ((lh.filter fun f=>!bL f)++[(jO,how)])
  rw[Xu,mh,GI]at h3
  have h4:hsz (gI (lh.map fl2))<=hsz (lh.map fl2):=rG _ _
  have h5:=hsh.2.2
  have h6:hsz ([(jO,how)].map fl2)<=25+16+2:=by
   rw[GL,Ws,fB]
   have e1:(fl2 (jO,how)).1.length=25:=rfl
   have e2:(fl2 (jO,how)).2.length=how.size:=ae how
   simp only[hsz,Ws,List.sum_nil]
   omega
  omega
theorem Pz(b:aa):dZ (uZ,(nT b).1)=true:=by
 have:∀x,x=KN\/x=D8\/x=qpN->dZ (uZ,x)=true:=by rintro x (rfl|rfl|rfl)<;>decide
 apply this
 unfold nT
 split
 ·exact .inl rfl
 ·split
  ·exact .inr (.inl rfl)
  ·exact .inr (.inr rfl)
theorem MV(A:Option Addr)(n1 c1:Nat)(bb:ByteArray)(A2:Option Addr)(n2 cap2:Nat)(lh:List Fl)(n bc k:Nat)(w:World)(S:Nat->Prop)(hS:∀i,S i->i≠bc)(hF:FLB w S (.slice A n1 c1) lh)(hsh:tY lh)(hbs:bb.size<=100000)
  (h40:¬40<=n) (hk:¬4<=k) (hc:CI w bc n) (hG:mg w) (hbc:GB bc) (hn2:n2<=1000000) (hmay:xg (lh.map fl2) bb.data.toList false n2=true) :
  Calls prog 138 #[.pointer (some ⟨bc,0,none⟩),.agg #[.slice A n1 c1,.string bb,.bool false,.slice A2 n2 cap2],.int .i64 k] w fun e w'=>yO (.ok (nH (gI (lh.map fl2)++[(uZ,(nT bb.data.toList).1)])++(nT bb.data.toList).2,n+1)) bc e w'/\w.grownBy w' (some bc):=by
 obtain⟨hR,-,-⟩:=Xg hmay
 have hH:uW lh:=⟨by have:=hsh.1;omega,fun f hf=>by have:=hsh.2.1 f hf;omega⟩
 have hb0:=aD w (jr (.slice A n1 c1) (.string bb) (.bool false) (.slice A2 n2 cap2))
 have HC:=Box.m (hc.below hb0 hc.lt)
 have hbl:=hc.lt
 have HG:=Box.m (hG.below hb0 hG.gb)
 have HF:=Box.m (hF.abv (dM hb0))
 have HH:=Box.m hH
 have HSh:=Box.m hsh
 have HR:=Box.m hR
 have HMy:=Box.m hmay
 have HSS:=Box.m hS
 clear hc hG hF hH hmay hsh hR hS
 go_enter func138,ntmps138
 go_wp2_with fail
 refine(uU bc n k _ HC.o h40 hk).mono ?_
 rintro e w1 ⟨rfl,hC1,hg1⟩
 have hsz1:=hg1.size
 rw[iC]at hsz1
 have hk1:=(hg1.block w.heap.size (by simp) (by simp;omega)).trans (bG w (jr (.slice A n1 c1) (.string bb) (.bool false) (.slice A2 n2 cap2)))
 obtain⟨x0,x1,x2,x3,xf⟩:=ic hk1
 have HG1:=Box.m (HG.o.gr hg1 hbc (by simp;omega))
 have hab1:=nQ (S:=S) hg1 (fun i hi e=>HSS.o i hi (Option.some.inj e))
 have HF1:=Box.m (FLB.fl (HF.o.abv hab1))
 have hg01:=aO (ak hb0 (some bc)) hg1
 have HC1:=Box.m hC1
 clear HC HG HF hC1 hab1
 go_wp2_with fail
 refine(yA A n1 c1 bb false A2 n2 cap2 lh _ HH.o HF1.o HG1.o.mx HG1.o.nm hn2).mono ?_
 rintro e w2 ⟨rfl,hb2⟩
 rw[HMy.o]
 have hsz2:=hb2.size
 have hk2:=(hb2.block w.heap.size (by omega)).trans hk1
 clear x0 x1 x2 x3 xf
 obtain⟨x0,x1,x2,x3,xf⟩:=ic hk2
 have HG2:=Box.m (HG1.o.below hb2 HG1.o.gb)
 have HF2:=Box.m (HF1.o.bel hb2)
 have HC2:=Box.m (HC1.o.below hb2 HC1.o.lt)
 have hg02:=aO hg01 (ak hb2 _)
 clear HG1 HF1 HC1 hg01 hk1 HMy HH
 go_wp2_with fail
 refine(Mi bb _ hbs HG2.o.mx).mono ?_
 rintro e w3 ⟨rfl,hb3⟩
 obtain⟨how,HHow⟩:∃how:ByteArray,Box (how=⟨(nT bb.data.toList).1.toArray⟩):=⟨_,⟨rfl⟩⟩
 obtain⟨beh,HBeh⟩:∃beh:ByteArray,Box (beh=⟨(nT bb.data.toList).2.toArray⟩):=⟨_,⟨rfl⟩⟩
 rw[<-HHow.o,<-HBeh.o]
 have hel:=Ik bb.data.toList (by rw[ae];exact hbs)
 have hhs:how.size<=16:=by rw[HHow.o,gm];exact hel.1
 have hbe:beh.size<=1000000000:=by rw[HBeh.o,gm];omega
 obtain⟨hMid,hfw,hfb⟩:=WI how hhs lh HSh.o HR.o (by rw[HHow.o];exact Pz _)
 have HMid:=Box.m hMid
 have HFw:=Box.m hfw
 have hsz3:=hb3.size
 have hszw:w.heap.size<w3.heap.size:=by omega
 have hk3:=(hb3.block w.heap.size (by omega)).trans hk2
 clear x0 x1 x2 x3 xf
 obtain⟨x0,x1,x2,x3,xf⟩:=ic hk3
 have hN:=(HG2.o.below hb3 HG2.o.gb).nm
 have hnl:=hN.lt
 have HN:=Box.m hN
 obtain⟨n0,n1'⟩:=hN
 have HF3:=Box.m (HF2.o.bel hb3)
 have HC3:=Box.m (HC2.o.below hb3 HC2.o.lt)
 have hg03:=aO hg02 (ak hb3 _)
 have HT3:=Box.m HSh.o.tiny
 clear HG2 HF2 HC2 hg02 hMid hfw hel
 obtain⟨M,HM⟩:∃M,Box (M=lh.filter fun f=>!bL f):=⟨_,⟨rfl⟩⟩
 rw[<-HM.o]at HMid HFw hfb
 have hMl:M.length<=100000:=by have:=HMid.o.1;rw[VQ]at this;omega
 go_wp2_with fail
 go_region_held3 (fun w'=>w'.cell? ⟨w.heap.size,0,none⟩=some (.slice A n1 c1)/\w'.cell? ⟨3,1,none⟩=some (.string jO)/\Below w3.heap.size w3 w')
  ((go_split_ands;exact Ui x0 n1' (by first|exact ag.drew|exact Below.alloc (by assumption) (Below.size (by assumption)) _|exact Below.trans (by assumption) (Below.mono hb5 (Below.size (by assumption)))|exact hb6|exact Below.trans (by assumption) (Below.mono hb7 (Below.size (by assumption))))))
  (first
   | (go_at_call 201;refine(rR _ lh _ HT3.o (FL.bel HF3.o (by first|exact ag.drew|exact(ag.drew.alloc af _))) (HN.o.below (by first|exact ag.drew|exact(ag.drew.alloc af _)) hnl)).mono ?_;rintro e w5 ⟨v5,rfl,hO5,hb5⟩)
   | (go_at_call 200;refine(sD v6 (M++[(jO,how)]) beh _ HMid.o hO6.fl HFw.o hbe (by omega)).mono ?_;rintro e w7 ⟨T,rfl,hT7,hb7⟩)
   | ((refine QO _ w3 (by rfl) _ _ (by rfl) w3.heap.size v5 M (by rfl) (by rw[HM.o];first|exact Da hO5 (by simp)|exact Da (bJ.below hO5 (ag.alloc af _) af) (by simp)) _ _ (jO,how) (by rfl) (by first|(simp;done)|(rw[hb5.cell (by simp)];simp;done)) (by first|(simp;done)|(rw[hb5.cell (by simp)];simp;done)) (by omega) (by have:=hb5.size;simp at this ⊢;omega) (by go_split_ands;first|exact Below.alloc (by assumption) (Below.size (by assumption)) _|assumption|exact Below.trans (by assumption) (Below.mono hb5 (Below.size (by assumption)))) ?_;intro v6 w6 hO6 hb6)))
 all_goals
  have HTT:Box (T.data.toList=nH (gI (lh.map fl2)++[(uZ,(nT bb.data.toList).1)])++(nT bb.data.toList).2):=⟨by
   have e:(M++[(jO,how)]).map fl2=gI (lh.map fl2)++[(uZ,(nT bb.data.toList).1)]:=by
    rw[Xu,HM.o,mh,HHow.o]
    rfl
   rw[hT7,<-Fb,e,HBeh.o]⟩
  have hb37:Below w3.heap.size w3 w7:=hb6.trans (hb7.mono hb6.size)
  have HC7:=Box.m (HC3.o.below hb37 HC3.o.lt)
  have hg07:=aO hg03 (ak hb37 _)
  clear hT7 HMid HFw HM HHow HBeh HF3 HC3 HN HT3 HSh HR hO6
  go_wp2
  go_ret2
  exact⟨⟨T,rfl,HTT.o,HC7.o⟩,hg07⟩
theorem SmT.short{D:Nat}{L:List PB}{b:aa}{many:Bool}{ps:List PT}(h:SmT (D+1) (.mk L b many ps))(lh:List Fl)(hl:lh.map fl2=L):tY lh:=by
 obtain⟨⟨h1,h2,h3⟩,_⟩:=h
 rw[<-hl]at h1 h2 h3
 rw[ZV]at h1
 refine⟨h1,fun f hf=>?_,h3⟩
 have:=h2 (fl2 f) (ZZ hf)
 unfold fl2 at this
 simp only at this
 rw[ae,ae]at this
 exact this
theorem KF(d:Nat)(ih:U6 d):U6 (d+1):=by
 intro D p v n bc k w S hS hv hsm hn hk hc hG hT hbc hbt
 match D,p,hv,hsm with
 | D+1,.mk L b many ps,hv,hsm=>
  have hv0:=hv
  obtain⟨A2,cap2,bb,lh,h1,h2,h3,h4,h5,h6,h7,h9,h10,h11⟩:=hv
  have hsh:=hsm.short lh h5
  obtain⟨_,s3,s4,s5⟩:=hsm
  by_cases h40:40<=n
  ·have e:dY (d+1) n (.mk L b many ps)=.error 4:=by unfold dY iF;rw[if_pos h40]
   rw[e]
   exact Fw v n bc k w hv0.shape (by omega) (by omega) (.inl h40) hc
  ·obtain⟨v0,v1,v2,v3⟩:=v
   simp only at h1 h2 h3 h4
   subst h1 h2 h3 h5 h7
   obtain⟨A,c1,hv0',hc1,hcell⟩:=id h4
   subst hv0'
   by_cases hmay:xg (lh.map fl2) bb.data.toList many ps.length=false
   ·have e:dY (d+1) n (.mk (lh.map fl2) bb.data.toList many ps)=.error 1:=by unfold dY iF;rw[if_neg h40,if_pos hmay]
    rw[e]
    exact MF A lh.length c1 bb many A2 ps.length cap2 lh n bc k w S hS h6 h4 (by omega) h40 (by omega) hc hG hbc hmay
   ·have hmay':xg (lh.map fl2) bb.data.toList many ps.length=true:=by simpa using hmay
    cases many with
    | true=>
     have e:dY (d+1) n (.mk (lh.map fl2) bb.data.toList true ps)=match dA (dY d) ps (n+1)with
       | .error e=>.error e
       | .ok r=>.ok (nH (iQ (jJ r.1) (lh.map fl2))++gK (jJ r.1) r.1,r.2):=by
      show iF jJ (d+1) n _=_
      rw[iF,if_neg h40,if_neg hmay];rfl
     rw[e]
     refine(Iz d ih D A lh.length c1 bb A2 cap2 lh ps n bc k w S hS h4 hsh s4 h11 s5 h40 hk hc hG hT hbc hbt hmay').mono ?_
     rintro e w' ⟨hP,hg⟩
     refine⟨?_,hg⟩
     cases ha:dA (dY d) ps (n+1)with
     | error c=>rw[ha]at hP;exact hP
     | ok r=>rw[ha]at hP;exact hP
    | false=>
     have e:dY (d+1) n (.mk (lh.map fl2) bb.data.toList false ps)=.ok (nH (gI (lh.map fl2)++[(uZ,(nT bb.data.toList).1)])++(nT bb.data.toList).2,n+1):=by
      show iF jJ (d+1) n _=_
      rw[iF,if_neg h40,if_neg hmay];rfl
     rw[e]
     exact MV A lh.length c1 bb A2 ps.length cap2 lh n bc k w S hS h4 hsh (by rw[ae]at s3;exact s3) h40 (by omega) hc hG hbc (by omega) hmay'
theorem Bi:∀d,U6 d
 | 0=>fun D p v n bc k w S hS hv hsm hn hk hc hG hT hbc hbt=>by
  have e:dY 0 n p=.error 4:=rfl
  rw[e]
  exact Fw v n bc k w hv.shape (by omega) (by omega) (.inr (by omega)) hc
 | d+1=>KF d (Bi d)
def UC(O:Except Nat (aa))(e:Ending):Prop:=
 match O with
 | .error c=>e=.returned (.tuple #[.string ⟨#[]⟩,.iface 25 (.int .i64 c)])
 | .ok t=>∃T:ByteArray,e=.returned (.tuple #[.string T,.nilIface])/\T.data.toList=t
theorem Ei(D:Nat)(p:PT)(v:P4)(w:World)(S:Nat->Prop)(hv:PV w S D v p)(hsm:SmT D p)(hG:mg w)(hT:Tab w):
  Calls prog 75 #[v.v] w fun e w'=>UC (sw (dY 4 0 p)) e/\Below w.heap.size w w':=by
 obtain⟨A,n,c,bb,m,A2,n2,c2,rfl⟩:=hv.shape
 obtain⟨O,HO⟩:∃O,Box (O=dY 4 0 p):=⟨_,⟨rfl⟩⟩
 rw[<-HO.o]
 have hb0:=aD w (jr (.slice A n c) (.string bb) (.bool m) (.slice A2 n2 c2))
 have hb1:=aD (w.alloc (jr (.slice A n c) (.string bb) (.bool m) (.slice A2 n2 c2))) (.cells #[.int .i64 0] 179)
 have hb01:Below w.heap.size w _:=hb0.trans (hb1.mono (by simp))
 have hC:CI ((w.alloc (jr (.slice A n c) (.string bb) (.bool m) (.slice A2 n2 c2))).alloc (.cells #[.int .i64 0] 179)) (w.heap.size+1) 0:=by
  have hh:=bG (w.alloc (jr (.slice A n c) (.string bb) (.bool m) (.slice A2 n2 c2))) (.cells #[.int .i64 0] 179)
  rw[iC]at hh
  exact X9 hh
 have HC:=Box.m hC
 have hgb:=hG.gb
 have htl:=hT.lt
 have HG:=Box.m (hG.below hb01 hgb)
 have HT:=Box.m (hT.below hb01 htl)
 have HV:Box (PV ((w.alloc (jr (.slice A n c) (.string bb) (.bool m) (.slice A2 n2 c2))).alloc (.cells #[.int .i64 0] 179)) (fun i=>i<w.heap.size) D (.slice A n c,.string bb,.bool m,.slice A2 n2 c2) p):=⟨PV.abv (dM hb01) _ _ _ (PV.mono (fun i hi _=>hi) _ _ _ hv)⟩
 have HSm:=Box.m hsm
 clear hC hG hT hv hsm
 unfold P4.v
 go_enter func75,ntmps75
 go_wp2_with fail
 refine(Bi 4 D p (.slice A n c,.string bb,.bool m,.slice A2 n2 c2) 0 (w.heap.size+1) 0 _ _ (fun i hi=>by have:i<w.heap.size:=hi;omega) HV.o HSm.o (by omega) (by omega) HC.o HG.o HT.o (hgb.mono (by omega)) (by omega)).mono ?_
 rintro e w1 ⟨hR,hg1⟩
 have hbb:Below w.heap.size w w1:=hb01.trans (iX hg1 (by omega) (by simp))
 clear HC HG HT HV
 rw[<-HO.o]at hR
 unfold yO at hR
 cases O with
 | error c=>
  obtain rfl:=hR
  clear HO
  go_wp2
  go_ret2
  exact⟨rfl,hbb⟩
 | ok q=>
  obtain⟨T,rfl,hTq,_⟩:=hR
  have hl:=Ct 4 D 0 p q HSm.o HO.o.symm
  have hts:T.size=q.1.length:=by rw[<-ae,hTq]
  have hts2:T.size<=1000000000:=by omega
  clear HO
  by_cases h2:20000<T.size
  ·have HQ:Box (sw (.ok q)=.error 4):=⟨by unfold sw;simp only;rw[if_pos (by omega)]⟩
   clear hl hts hTq
   go_wp2
   go_ret2
   exact⟨by rw[HQ.o];rfl,hbb⟩
  ·have HQ:Box (sw (.ok q)=.ok q.1):=⟨by unfold sw;simp only;rw[if_neg (by omega)]⟩
   have HTq:=Box.m hTq
   clear hl hts hTq
   go_wp2
   go_ret2
   exact⟨by rw[HQ.o];exact⟨T,rfl,HTq.o⟩,hbb⟩
theorem Ie{q q':aa×Nat×Nat}{c:UInt8}(h:Tx.joinStep q c=some q'):q'.1.length<=q.1.length+1:=by
 unfold Tx.joinStep at h
 split at h
 ·cases h
 ·split at h
  ·cases h;simp
  ·cases h;simp
theorem IE(l:aa):∀q,Tx.joinAll l=some q->q.1.length<=l.length:=by
 intro q
 have key:∀(n:Nat) (l:aa),l.length=n->∀q,Tx.joinAll l=some q->q.1.length<=l.length:=by
  intro n
  induction n with
  | zero=>
   intro l hl q h
   have:l=[]:=List.eq_nil_of_length_eq_zero hl
   subst this
   cases h;simp
  | succ n ih=>
   intro l hl q h
   rcases List.eq_nil_or_concat l with rfl|⟨m,c,rfl⟩
   ·simp at hl
   ·rw[List.concat_eq_append]at h hl ⊢
    rw[Tx.joinAll_snoc]at h
    obtain⟨r,hr,hs⟩:=aaa.1 h
    have h1:=ih m (by simpa using hl) r hr
    have h2:=Ie hs
    simp;omega
 exact key l.length l rfl q
theorem tC(l b:aa)(h:Tx.unpackS l=some b):b.length<=l.length:=by
 unfold Tx.unpackS at h
 split at h
 ·unfold Tx.joinedS at h
  obtain⟨q,hq,h2⟩:=aaa.1 h
  have h1:=IE _ q hq
  have h3:=Tx.solidL_length l
  rw[Z5]at h1
  split at h2
  ·cases h2;omega
  ·cases h2
 ·cases h
theorem LF(a:aa):(Tx.lineOf a).length<=a.length:=by
 unfold Tx.lineOf
 have h1:(Lib.trimRightS a [32,9]).length<=a.length:=by
  unfold Lib.trimRightS
  rw[Z6]
  have:=qM (fun c=>[32,9].contains c) a.reverse
  rw[Z6]at this
  omega
 have h2:(Lib.trimSuffix (Lib.trimRightS a [32,9]) [61]).length<=(Lib.trimRightS a [32,9]).length:=by
  unfold Lib.trimSuffix
  split
  ·rw[Z5];omega
  ·exact Z8 _
 omega
theorem BC:∀(f:Nat) (s out o:aa),Tx.uqLoop f s out=some o->o.length<=out.length+s.length
 | 0,s,out,o,h=>by cases h
 | f+1,s,out,o,h=>by
  unfold Tx.uqLoop at h
  obtain⟨b,hb,h2⟩:=aaa.1 h
  have h3:=Tx.unquotedS_len _ b hb
  have h4:=LF (Lib.cut s [13,10]).1
  rcases jX s [13,10]with⟨hc,hl⟩|⟨hc,h5,h6⟩
  ·rw[hc]at h2
   simp only[if_true]at h2
   have h7:=BC f _ _ o h2
   have h8:(if Tx.goesOn (Lib.cut s [13,10]).1 then ([]:aa) else [13,10]).length<=2:=by split<;>simp
   rw[VQ,VQ]at h7
   simp only[ZW,Z7]at hl
   omega
  ·rw[hc]at h2
   simp only[Bool.false_eq_true,if_false,Option.some.injEq]at h2
   rw[<-h2,VQ]
   rw[h5]at h4 h3
   omega
theorem rq(l b:aa)(h:Tx.unquoteS l=some b):b.length<=l.length:=by
 have:=BC _ l [] b h
 simpa using this
theorem zn(L:List PB)(s b:aa)(h:eX L s=.ok b):b.length<=s.length:=by
 unfold eX at h
 have h1:∀o,kQ 3 o=.ok b->o=some b:=by
  intro o ho
  cases o with
  | none=>cases ho
  | some x=>cases ho;rfl
 repeat' split at h
 all_goals first
  | (cases h;exact Z8 _)
  | (exact tC _ _ (h1 _ h))
  | (exact rq _ _ (h1 _ h))
  | (cases h;done)
theorem WL(M:List FB):hsz (M.map fun f=>(f.1,trimS f.2))<=og M+2*M.length:=by
 induction M with
 | nil=>simp[hsz,og]
 | cons f M ih=>
  have e:og (f::M)=f.1.length+f.2.length+og M:=by simp[og]
  rw[GL,fB,e,ZW]
  have:=pK f.2
  simp only
  omega
theorem RB(s:aa)(h:List PB×aa)(e:iA s=.ok h):hsz h.1<=3*s.length:=by
 unfold iA at e
 have hf:=Gt _ s af
 have hn:=zK _ (Gy _ s af)
 cases hr:dm (hl s).1 0 []with
 | error n=>rw[hr]at e;cases e
 | ok M=>
  rw[hr]at e
  have ht:=rE _ _ _ _ hr
  rw[show og []=0 from rfl,Z7]at ht
  simp only at e
  split at e
  ·obtain rfl:=(Except.ok.inj e).symm
   have:=WL M
   simp only
   omega
  ·cases e
theorem uF{f:Nat->aa->Except Nat (PT×Nat)}(hf:∀n s q,f n s=.ok q->n+1<=q.2):∀(xs:List (aa)) (n:Nat) (r:List PT×Nat),dA f xs n=.ok r->n+r.1.length<=r.2
 | [],n,r,h=>by cases h;simp
 | x::xs,n,r,h=>by
  obtain⟨y,k,zs,h1,h2,h3⟩:=xG _ _ _ _ _ _ (show dA f (x::xs) n=.ok (r.1,r.2)from h)
  have a:=hf n x (y,k) h1
  have b:=uF hf xs k (zs,r.2) h2
  rw[h3,ZW]
  simp only at a b
  omega
theorem wK:∀(d n:Nat) (s:aa) (q:PT×Nat),bU d n s=.ok q->n+1<=q.2
 | 0,n,s,q,h=>by cases h
 | d+1,n,s,q,h=>by
  unfold bU at h
  split at h
  ·cases h
  ·cases h1:iA s with
   | error c=>rw[h1]at h;cases h
   | ok hh=>
    rw[h1]at h
    simp only at h
    cases h2:aS hh.1 with
    | error c=>rw[h2]at h;cases h
    | ok o=>
     rw[h2]at h
     cases o with
     | none=>
      simp only at h
      cases h3:eX hh.1 hh.2 with
      | error c=>rw[h3]at h;cases h
      | ok b=>rw[h3]at h;cases h;exact Z8 _
     | some b=>
      simp only at h
      cases h3:dV b hh.2 with
      | none=>rw[h3]at h;cases h
      | some xs=>
       rw[h3]at h
       simp only at h
       cases h4:dA (bU d) xs (n+1)with
       | error c=>rw[h4]at h;cases h
       | ok r=>
        rw[h4]at h
        cases h
        have:=uF (wK d) xs (n+1) r h4
        simp only
        omega
theorem Ku:∀(d n:Nat) (s:aa) (q:PT×Nat),bU d n s=.ok q->n<=40->s.length<=2500->Sm1 d q.1
 | 0,n,s,q,h,_,_=>by cases h
 | d+1,n,s,q,h,hn,hs=>by
  have hcnt:=pO (d+1) n s q h hn
  unfold bU at h
  split at h
  ·cases h
  ·cases h1:iA s with
   | error c=>rw[h1]at h;cases h
   | ok hh=>
    rw[h1]at h
    simp only at h
    obtain⟨l1,l2,l3⟩:=yz s hh h1
    have l4:=RB s hh h1
    have hhd:hh.1.length<=2990/\(∀f∈hh.1,f.1.length<=2500/\f.2.length<=2500)/\hsz hh.1<=9000:=⟨by omega,fun f hf=>by have:=l2 f hf;omega,by omega⟩
    cases h2:aS hh.1 with
    | error c=>rw[h2]at h;cases h
    | ok o=>
     rw[h2]at h
     cases o with
     | none=>
      simp only at h
      cases h3:eX hh.1 hh.2 with
      | error c=>rw[h3]at h;cases h
      | ok b=>
       rw[h3]at h
       cases h
       have:=zn _ _ _ h3
       exact⟨hhd,by omega,by simp,fun p hp=>by cases hp⟩
     | some b=>
      simp only at h
      cases h3:dV b hh.2 with
      | none=>rw[h3]at h;cases h
      | some xs=>
       rw[h3]at h
       simp only at h
       have hx:=ut _ _ _ h3
       cases h4:dA (bU d) xs (n+1)with
       | error c=>rw[h4]at h;cases h
       | ok r=>
        rw[h4]at h
        cases h
        have hc:=uF (wK d) xs (n+1) r h4
        have hall:∀(xs:List (aa)) (n:Nat) (r:List PT×Nat),(∀x∈xs,x.length<=2500)->dA (bU d) xs n=.ok r->r.2<=40->n<=40->∀p∈r.1,Sm1 d p:=by
         intro xs
         induction xs with
         | nil=>intro n r _ h _ _ p hp;cases h;cases hp
         | cons x xs ihx=>
          intro n r hl h hr hn p hp
          obtain⟨y,k,zs,h1,h2,h3⟩:=xG _ _ _ _ _ _ (show dA (bU d) (x::xs) n=.ok (r.1,r.2)from h)
          have a:=pO d n x (y,k) h1 hn
          rw[h3]at hp
          rcases ZY.1 hp with rfl|hp
          ·exact Ku d n x (p,k) h1 hn (hl x (by simp))
          ·exact ihx k (zs,r.2) (fun z hz=>hl z (by simp[hz])) h2 hr a p hp
        simp only at hcnt
        exact⟨hhd,by simp,by omega,hall xs (n+1) r (fun x hx'=>by have:=hx x hx';omega) h4 hcnt (by omega)⟩
theorem Y1(s:aa)(q:PT)(h:gB s=.ok q)(hs:s.length<=2500):Sm1 4 q:=by
 unfold gB at h
 split at h
 ·cases h
 ·cases hr:bU 4 0 s with
  | error c=>rw[hr]at h;cases h
  | ok r=>
   rw[hr]at h
   cases h
   exact Ku 4 0 s r hr (by omega) hs
end Go.Proofs.YtkldkhdigkpniaaGreatDoor
