import Derived.Test.YtkldkhdigkpniaaGreatDoorZ26
import Derived.Test.YtkldkhdigkpniaaGreatDoorZ19
import Derived.Test.YtkldkhdigkpniaaGreatDoorZShelfW
set_option maxHeartbeats 2000000
set_option maxRecDepth 100000
open List renaming takeWhile_cons → GL, map_cons → VQ, length_append → Ws, getElem?_eq_getElem → Xu, length_map → ZV, length_cons → ZW, set_cons_zero → ZX, set_cons_succ → ZY, filter_cons → ZZ, flatMap_append → Z0, mem_of_getElem? → Z4, take_add_one → Z5, take_of_length_le → Z6, all_cons → Z7
open Nat renaming le_trans → Z8, le_of_eq → Z9, zero_le → aaa
open Bool renaming and_eq_true → aab
namespace Go.Proofs.YtkldkhdigkpniaaGreatDoor
open Go.RowKit Go.Proofs.Tryz
theorem rR(v:Value)(L:List Fl)(w:World)(hT:lW L)(hF:FL w v L)(hN:j6 w):
  Calls prog 201 #[v] w fun e w'=>∃v',e=.returned v'/\bJ w' w.heap.size v' (L.filter fun f=>!bL f)/\Below w.heap.size w w':=by
 have HT:=Box.m hT
 have HF:=Box.m hF
 have HN:=Box.m hN
 clear hT hF hN
 go_enter func201,ntmps201
 go_wp2_with fail
 refine(pI v L _ HT.o HF.o).mono ?_
 rintro e w1 ⟨v1,rfl,hO1,hb1⟩
 have HO1:=Box.m hO1
 have HN1:=Box.m (HN.o.below hb1 HN.o.lt)
 have hlt:=HN.o.lt
 clear HF HN hO1
 go_wp2_with fail
 refine(Lr v1 L w.heap.size _ HT.o HO1.o hlt hb1.size HN1.o).mono ?_
 rintro e w2 ⟨v2,rfl,hO2,hb2⟩
 go_wp2
 go_ret
 exact⟨_,rfl,hO2,hb1.trans hb2⟩
theorem mh(L:List Fl):(L.filter fun f=>!bL f).map fl2=gI (L.map fl2):=by
 unfold gI
 rw[List.filter_map]
 rfl
theorem OI(edge:ByteArray):∀(Lq:List Fl) (k:Nat) (f:Fl),k=aM (fun f=>!yL f) Lq->Lq[k]?=some f->(Lq.set k (f.1,edge)).map pb2=setP edge.data.toList (Lq.map pb2)
 | [],k,f,_,h=>by simp at h
 | a::Lq,k,f,hk,h=>by
  unfold aM at hk
  rw[GL]at hk
  have hb:yL a=decide ((pb2 a).1=bdN):=rfl
  cases hp:yL a with
  | true=>
   rw[hp]at hk
   obtain rfl:k=0:=by simpa using hk
   obtain rfl:a=f:=by simpa using h
   rw[hp]at hb
   have hb':=of_decide_eq_true hb.symm
   simp only[ZX,VQ,setP]
   rw[if_pos hb']
   rfl
  | false=>
   rw[hp]at hk
   obtain⟨k',rfl⟩:∃k',k=k'+1:=⟨(Lq.takeWhile (fun f=>!yL f)).length,by simpa using hk⟩
   rw[hp]at hb
   have hb':=of_decide_eq_false hb.symm
   have ih:=OI edge Lq k' f (by unfold aM;simpa using hk) (by simpa using h)
   simp only[ZY,VQ,setP]
   rw[if_neg hb',ih]
theorem Bb(bd:aa)(S:ByteArray):∀(L:List Fl) (r:Nat) (f:Fl),r=aM (fun f=>!ji f) (L.filter fun f=>!bL f)->(L.filter fun f=>!bL f)[r]?=some f->S.data.toList=pu bd f.2.data.toList->((L.filter fun f=>!bL f).set r (f.1,S)).map fl2=iQ bd (L.map fl2)
 | [],r,f,_,h,_=>by simp at h
 | a::L,r,f,hr,h,hS=>by
  rw[VQ,qV]
  have hc:bL a=decide (ah (fl2 a).1=xH):=rfl
  cases hp:bL a with
  | true=>
   rw[hp]at hc
   rw[if_pos (of_decide_eq_true hc.symm)]
   rw[ZZ,hp]at hr h ⊢
   exact Bb bd S L r f hr h hS
  | false=>
   rw[hp]at hc
   rw[if_neg (of_decide_eq_false hc.symm)]
   rw[ZZ,hp]at hr h ⊢
   simp only[Bool.not_false,if_true]at hr h ⊢
   unfold aM at hr
   rw[GL]at hr
   have ht:ji a=decide (ah (fl2 a).1=ctN):=rfl
   cases hq:ji a with
   | true=>
    rw[hq]at ht hr
    obtain rfl:r=0:=by simpa using hr
    obtain rfl:a=f:=by simpa using h
    rw[if_pos (of_decide_eq_true ht.symm),ZX,VQ,mh]
    congr 1
    show(a.1.data.toList,S.data.toList)=_
    rw[hS];rfl
   | false=>
    rw[hq]at ht hr
    rw[if_neg (of_decide_eq_false ht.symm)]
    obtain⟨r',rfl⟩:∃r',r=r'+1:=⟨((L.filter fun f=>!bL f).takeWhile (fun f=>!ji f)).length,by simpa using hr⟩
    rw[ZY,VQ,Bb bd S L r' f (by unfold aM;simpa using hr) (by simpa using h) hS]
theorem Ig(v:Value)(L:List Fl)(edge:ByteArray)(B:Nat)(w:World)(r:Nat)(f:Fl)(q:aa×List PB)(hT:lW L)(hO:bJ w B v L)(hB:GB B)(hBw:B<=w.heap.size)(hG:mg w)
  (hr:r=aM (fun f=>!ji f) L) (hrl:r<L.length) (hf:L[r]?=some f) (hfs:f.2.size<=8000) (hq:eO f.2.data.toList=some q) (hbd:∃p∈q.2,p.1=bdN) (he:edge.size<=70) (hei:edge.data.toList.all inC=true) :
  Calls prog 240 #[v,.string edge] w fun e w'=>∃S:ByteArray,e=.returned (.tuple #[v,.nilIface])/\S.data.toList=pu edge.data.toList f.2.data.toList/\bJ w' B v (L.set r (f.1,S))/\Below B w w':=by
 rcases hO.shape with⟨_,hL⟩|⟨g,cap,hv,hBg,hgw,hcap⟩
 ·rw[hL]at hrl;exact absurd hrl (by simp)
 subst hv
 have HT:=Box.m hT
 have HO:=Box.m hO
 have HG:=Box.m hG
 have HR:=Box.m hr
 have HQ:=Box.m hq
 have HBD:=Box.m hbd
 have hlen:=hT.1
 have hfe:L[r]=f:=by rw[Xu hrl]at hf;exact Option.some.inj hf
 obtain⟨fn,fv⟩:=f
 simp only at hfs hq hf
 have HF:=Box.m hf
 have HFE:=Box.m hfe
 clear hT hO hG hr hq hbd hf hfe
 go_enter func240,ntmps240
 go_wp2_with fail
 refine(Kw _ L _ HT.o HO.o.fl HG.o.nm).mono ?_
 rintro e w1 ⟨hI,hb1⟩
 rw[<-HR.o]at hI
 rcases hI with⟨_,rfl⟩|⟨hI,_⟩
 ·have HO1:=Box.m (HO.o.below hb1 af)
  have HG1:=Box.m (HG.o.below hb1 (hB.mono hBw))
  have hc1:=HO1.o.cell r hrl
  rw[HFE.o]at hc1
  obtain⟨d0,d1,d2⟩:=hc1
  simp only at d0 d1
  clear HO
  go_wp2_with fail
  refine(uJ fv _ (by omega) HG1.o.mx).mono ?_
  rintro e w2 ⟨hP,hb2⟩
  unfold OM at hP
  rw[HQ.o]at hP
  obtain⟨m,vq,Lq,rfl,hm,hownQ,hLq,hms,hLs,hfsz⟩:=hP
  have HO2:=Box.m (HO1.o.below hb2 af)
  have HG2:=Box.m (HG1.o.below hb2 (hB.mono (Z8 hBw hb1.size)))
  have HTq:Box (lW Lq):=⟨⟨by omega,fun x hx=>by have:=hfsz x hx;omega⟩⟩
  have HSz:=Box.m hfsz
  have HOq:=Box.m hownQ
  have HLq:=Box.m hLq
  have HMm:=Box.m hm
  clear HO1 HG1 hfsz hownQ hLq hm d0 d1 d2
  go_wp2_with fail
  refine(Hy vq Lq _ HTq.o HOq.o.fl).mono ?_
  rintro e w3 ⟨hI3,hb3⟩
  have hkb:aM (fun f=>!yL f) Lq<Lq.length:=by
   rcases hI3 with⟨h,_⟩|⟨h,_⟩
   ·exact h
   ·exfalso
    obtain⟨p,hp,hpb⟩:=HBD.o
    rw[<-HLq.o]at hp
    obtain⟨x,hx,rfl⟩:=List.mem_map.1 hp
    have h1:=kv _ Lq h
    have h2:=List.filter_eq_self.1 h1 x hx
    have h3:yL x=true:=decide_eq_true hpb
    rw[h3]at h2
    cases h2
  rcases hI3 with⟨_,rfl⟩|⟨hI3,_⟩
  ·obtain⟨k,HK⟩:∃k,Box (k=aM (fun f=>!yL f) Lq):=⟨_,⟨rfl⟩⟩
   rw[<-HK.o]at hkb ⊢
   have HO3:=Box.m (HO2.o.below hb3 af)
   have HOq3:=Box.m (HOq.o.below hb3 af)
   have HG3:=Box.m (HG2.o.below hb3 (hB.mono (Z8 (Z8 hBw hb1.size) hb2.size)))
   rcases HOq3.o.shape with⟨_,hL⟩|⟨gq,capq,hvq,hBq,hgq,hcapq⟩
   ·rw[hL]at hkb;exact absurd hkb (by simp)
   subst hvq
   obtain⟨c0,c1,c2⟩:=HOq3.o.cell k hkb
   have hgg:g<gq:=by
    have h1:=hb1.size
    have h2:w1.heap.size<=gq:=hBq
    omega
   have hgs:=iT w3 gq (k*2+1) (.string edge)
   have HO4:Box (bJ (w3.setCell ⟨gq,k*2+1,none⟩ (.string edge)) B (.slice (some ⟨g,0,none⟩) L.length cap) L):=⟨World.ownsRow.kept HO3.o hgs (.inr (by simp[Value.ownBlock];omega))⟩
   have HQ4:=Box.m (HOq3.o.set k hkb edge)
   have hb03:Below B w w3:=((hb1.mono hBw).trans (hb2.mono (Z8 hBw hb1.size))).trans (hb3.mono (Z8 (Z8 hBw hb1.size) hb2.size))
   have hb04:Below B w (w3.setCell ⟨gq,k*2+1,none⟩ (.string edge)):=Below.setCell hb03 (show B<=gq by omega) _
   have HG4:=Box.m (mg.below HG.o hb04 hB)
   have hgd:=uG fv.data.toList q.1 q.2 HQ.o
   unfold xZ at hgd
   simp only[aab]at hgd
   have hset:=OI edge Lq k Lq[k] HK.o (Xu hkb)
   rw[HLq.o]at hset
   have hgoodL:(Lq.set k (Lq[k].1,edge)).all gY=true:=by
    have:=FZ edge.data.toList hei q.2 hgd.2
    rw[<-hset,List.all_map]at this
    exact this
   have HNV:Box (pu edge.data.toList fv.data.toList=eQ m.data.toList ((Lq.set k (Lq[k].1,edge)).map pb2)):=⟨by rw[Fv _ _ q.1 q.2 HQ.o,HMm.o,hset]⟩
   have HGM:Box (qA m.data.toList=true):=⟨by rw[HMm.o];exact hgd.1⟩
   have HMid:Box (Mid (Lq.set k (Lq[k].1,edge))):=⟨⟨by rw[List.length_set];omega,fun x hx=>by
    rcases List.mem_or_eq_of_mem_set hx with hx|rfl
    ·have:=HSz.o x hx;omega
    ·have:=HSz.o Lq[k] (List.getElem_mem hkb);simp only;omega⟩⟩
   have HGL:=Box.m hgoodL
   clear hgd hset hgoodL HO3 HOq3 HG3 HO2 HG2 HOq hgs HBD HQ
   go_wp2_with fail
   refine(vU m _ (Lq.set k (Lq[k].1,edge)) _ (by omega) HMid.o HQ4.o.fl HG4.o.mx).mono ?_
   rintro e w5 ⟨hW,hb5⟩
   rcases hW with⟨h,_⟩|⟨_,h,_⟩|⟨_,_,t,rfl,ht⟩
   ·rw[HGM.o]at h;cases h
   ·exfalso
    have:lZ (Lq.set k (Lq[k].1,edge))=(Lq.set k (Lq[k].1,edge)).length:=ib gY _ HGL.o
    omega
   ·have HO5:=Box.m (HO4.o.below hb5 af)
    obtain⟨x0,x1,x2⟩:=HO5.o.cell r hrl
    have HO6:=HO5.o.set r hrl t
    rw[HFE.o]at HO6
    have HT6:Box (t.data.toList=pu edge.data.toList fv.data.toList):=⟨by rw[ht,HNV.o]⟩
    have hb05:Below B w w5:=hb04.trans (hb5.mono (by simp;have:=hb03.size;omega))
    clear ht HNV HGM HGL HMid HQ4 HO4 HG4 hb5
    go_wp2
    go_ret2
    exact⟨t,rfl,HT6.o,HO6,Below.setCell hb05 (by exact hBg) _⟩
  ·omega
 ·omega
theorem Bh(l:aa)(s:ByteArray):Lib.byteCells l++Lib.strCells s=Lib.byteCells (l++s.data.toList):=by
 simp[Lib.byteCells,Lib.strCells]
theorem aV.at{w wr:World}{B:Nat}{A:Option Addr}{n cap:Nat}{ss:List ByteArray}(h:aV w B (.slice A n cap) ss)(hb:Below w.heap.size w wr)(k:Nat)(x:ByteArray)(hk:ss[k]?=some x):∃g,A=some ⟨g,0,none⟩/\g<w.heap.size/\wr.cell? ⟨g,k,none⟩=some (.string x):=by
 obtain⟨hkl,he⟩:=List.getElem?_eq_some_iff.1 hk
 rcases h.shape with⟨_,h2⟩|⟨g,cap',h1,_,hg,_,_,h5⟩
 ·rw[h2]at hkl;exact absurd hkl (by simp)
 ·simp only[Value.slice.injEq]at h1
  refine⟨g,h1.1,hg,?_⟩
  rw[hb.cell (p:=⟨g,k,none⟩) hg,h5 k hkl,he]
theorem aV.len{w:World}{B:Nat}{A:Option Addr}{n cap:Nat}{ss:List ByteArray}(h:aV w B (.slice A n cap) ss):n=ss.length:=by
 rcases h.shape with⟨h1,h2⟩|⟨g,cap',h1,_⟩
 ·simp only[Value.slice.injEq]at h1;rw[h2];exact h1.2.1
 ·simp only[Value.slice.injEq]at h1;exact h1.2.1
theorem aV.slice{w:World}{B:Nat}{v:Value}{ss:List ByteArray}(h:aV w B v ss):∃A n cap,v=.slice A n cap:=by
 rcases h.shape with⟨rfl,_⟩|⟨g,cap,rfl,_⟩
 ·exact⟨_,_,_,rfl⟩
 ·exact⟨_,_,_,rfl⟩
theorem Cn(b:aa)(ss:List ByteArray)(k:Nat):(((ss.map lst).take k).flatMap (jP b)).length<=((ss.map lst).flatMap (jP b)).length:=by
 conv=>rhs;rw[<-List.take_append_drop k (ss.map lst),Z0,Ws]
 omega
theorem Q7(v:Value)(ss:List ByteArray)(edge:ByteArray)(B:Nat)(w:World)(hO:aV w B v ss)(hl:(gK edge.data.toList (ss.map lst)).length<=1000000000)(hn:ss.length<=1000000)(he:edge.size<=100000)(hx:∀x∈ss,x.size<=1000000000):
  Calls prog 241 #[v,.string edge] w fun e w'=>∃S:ByteArray,e=.returned (.string S)/\S.data.toList=gK edge.data.toList (ss.map lst)/\Below w.heap.size w w':=by
 obtain⟨A,n,cap,hv⟩:=hO.slice
 subst hv
 have hnl:=hO.len
 have hn1:n<=ss.length:=Z9 hnl
 have hn2:ss.length<=n:=Z9 hnl.symm
 have HO:=Box.m hO
 have HX:=Box.m hx
 have HL:=Box.m hl
 have h0:=bG w (.cells #[.pointer none,.slice none 0 0] 34)
 have HB0:Box (Lib.IsBuilder 34 5 w.heap.size w.heap.size (Lib.byteCells []) (w.alloc (.cells #[.pointer none,.slice none 0 0] 34))):=⟨.inl ⟨Nat.le_refl _,_,h0,World.ownsRow_nil _ _ _ _,by simp[Value.ownBlock]⟩⟩
 have hb0:=aD w (.cells #[.pointer none,.slice none 0 0] 34)
 clear hO hnl hx hl h0
 go_enter func241,ntmps241
 go_wp2
 go_loopw [10] (fun i wr=>∃k:Nat,k<=n/\i=.int .i64 k/\Below w.heap.size w wr/\Box (Lib.IsBuilder 34 5 w.heap.size w.heap.size (Lib.byteCells (((ss.map lst).take k).flatMap (jP edge.data.toList))) wr)) (fun i _=>n - (intOf i).toNat)
 case atStart=>exact⟨0,aaa _,rfl,hb0,HB0⟩
 case round=>
  obtain⟨k,hk,rfl,hb,HB⟩:=hrel
  have hsz:=hb.size
  by_cases hlt:k<n
  ·have hkl:k<ss.length:=by omega
   obtain⟨x,HXk⟩:∃x,Box (ss[k]?=some x):=⟨_,⟨Xu hkl⟩⟩
   obtain⟨g,hA,hg,hc⟩:=HO.o.at hb k x HXk.o
   subst hA
   have hxs:=HX.o x (Z4 HXk.o)
   obtain⟨P,HP⟩:∃P:ByteArray,Box (P=((⟨#[45,45]⟩++edge)++⟨#[13,10]⟩++x)++⟨#[13,10]⟩):=⟨_,⟨rfl⟩⟩
   have HPl:Box (P.data.toList=jP edge.data.toList x.data.toList):=⟨by rw[HP.o];simp[jP,gU]⟩
   have hps:P.size<=1000100010:=by
    rw[<-ae,HPl.o]
    simp[jP,gU]
    omega
   have hs1:¬9223372036854775807<2+edge.size:=by omega
   have hs2:¬9223372036854775807<2+edge.size+2:=by omega
   have hs3:¬9223372036854775807<2+edge.size+2+x.size:=by omega
   have hs4:¬9223372036854775807<2+edge.size+2+x.size+2:=by omega
   have HBl:Box ((Lib.byteCells (((ss.map lst).take k).flatMap (jP edge.data.toList))).length<=1000000000):=⟨by
    have h1:=Cn edge.data.toList ss k
    have h2:=HL.o
    unfold gK at h2
    rw[Ws,Ws]at h2
    simp only[Lib.byteCells,ZV]
    omega⟩
   have HN:Box (((ss.map lst).take (k+1)).flatMap (jP edge.data.toList)=((ss.map lst).take k).flatMap (jP edge.data.toList)++P.data.toList):=⟨by
    rw[Z5,List.getElem?_map,HXk.o,Z0,HPl.o]
    simp[lst]⟩
   clear HXk hkl HX HO HB0
   go_wp2_with fail
   rw[<-HP.o]
   refine(Tryz.Builder_WriteString w.heap.size w.heap.size _ P _ HB.o (by have:=HBl.o;omega) hsz).mono ?_
   rintro e w2 ⟨rfl,hB2,hb2⟩
   rw[Bh,<-HN.o]at hB2
   have HB2:=Box.m hB2
   clear HP HPl HB HN hB2 HBl
   go_wp2
   go_roundw
   case rel=>exact⟨k+1,by omega,by go_num,hb.trans hb2,⟨.inr HB2.o⟩⟩
   case measure=>simp[intOf];omega
  ·obtain⟨P,HP⟩:∃P:ByteArray,Box (P=((⟨#[45,45]⟩++edge)++⟨#[45,45]⟩)++⟨#[13,10]⟩):=⟨_,⟨rfl⟩⟩
   have HPl:Box (P.data.toList=gU edge.data.toList++[45,45,13,10]):=⟨by rw[HP.o];simp[gU]⟩
   have hps:P.size<=100010:=by
    rw[<-ae,HPl.o]
    simp[gU]
    omega
   have hs1:¬9223372036854775807<2+edge.size:=by omega
   have hs2:¬9223372036854775807<2+edge.size+2:=by omega
   have hs3:¬9223372036854775807<2+edge.size+2+2:=by omega
   have HBl:Box ((Lib.byteCells (((ss.map lst).take k).flatMap (jP edge.data.toList))).length<=1000000000):=⟨by
    have h1:=Cn edge.data.toList ss k
    have h2:=HL.o
    unfold gK at h2
    rw[Ws,Ws]at h2
    simp only[Lib.byteCells,ZV]
    omega⟩
   have HN:Box (gK edge.data.toList (ss.map lst)=((ss.map lst).take k).flatMap (jP edge.data.toList)++P.data.toList):=⟨by
    rw[Z6 (by rw[ZV];omega),HPl.o,gK,List.append_assoc]⟩
   clear HX HO HB0 HL
   go_wp2_with fail
   rw[<-HP.o]
   refine(Tryz.Builder_WriteString w.heap.size w.heap.size _ P _ HB.o (by have:=HBl.o;omega) hsz).mono ?_
   rintro e w2 ⟨rfl,hB2,hb2⟩
   rw[Bh,<-HN.o]at hB2
   have HB2:=Box.m hB2
   have hb02:=hb.trans hb2
   have hsz2:=hb02.size
   clear HP HPl HB HN hB2 HBl
   go_wp2_with fail
   refine(Tryz.Builder_String w.heap.size w.heap.size _ _ (.inr HB2.o) hsz2).mono ?_
   rintro e w3 ⟨rfl,hb3⟩
   go_wp2
   go_ret
   exact⟨_,rfl,rfl,hb02.trans hb3⟩
theorem Hr(s edge:ByteArray)(b:Nat)(w:World)(hs:s.size<=1000000000)(he:edge.size<=100000)(hc:w.cell? ⟨b,0,none⟩=some (.string edge))(hm:Max w):
  Calls prog 263 #[.string s,.pointer (some ⟨b,0,none⟩)] w fun e w'=>e=.returned (.bool (Lib.contains s.data.toList (gU edge.data.toList)))/\Below w.heap.size w w':=by
 obtain⟨_,m,hmc⟩:=hm
 have hsum:¬9223372036854775807<2+edge.size:=by omega
 have HK:=Box.m (Tryz.strings_Contains s (⟨#[45,45]⟩++edge) m w (by omega) hmc)
 obtain⟨R,HR⟩:∃R,Box (R=Lib.contains s.data.toList (gU edge.data.toList)):=⟨_,⟨rfl⟩⟩
 rw[<-HR.o]
 rw[yX,<-HR.o]at HK
 clear HR hmc
 go_enter func263,ntmps263
 go_wp2_with fail
 refine HK.o.mono ?_
 rintro e w1 ⟨rfl,hw1⟩
 obtain rfl:=hw1.symm
 go_wp2
 go_ret
 exact⟨rfl,Below.refl _ _⟩
def o9(p:ByteArray->Bool)(L:List ByteArray):Nat:=(L.takeWhile fun x=>!p x).length
theorem Ju(p:ByteArray->Bool)(L:List ByteArray)(k:Nat)(x:ByteArray)(hk:L[k]?=some x)(h:(L.take k).all (fun x=>!p x)=true)(h':p x=true):o9 p L=k:=by
 unfold o9
 induction L generalizing k with
 | nil=>simp at hk
 | cons a L ih=>
  cases k with
  | zero=>
   obtain rfl:a=x:=by simpa using hk
   simp[h']
  | succ k=>
   simp only[List.take_succ_cons,Z7,aab]at h
   rw[GL,if_pos h.1,ZW,ih k (by simpa using hk) h.2]
theorem KW(p:ByteArray->Bool)(L:List ByteArray)(h:L.all (fun x=>!p x)=true):o9 p L=L.length:=by
 unfold o9
 induction L with
 | nil=>rfl
 | cons a L ih=>
  simp only[Z7,aab]at h
  rw[GL,if_pos h.1,ZW,ih h.2,ZW]
theorem MN(p:ByteArray->Bool)(L:List ByteArray):decide (o9 p L<L.length)=L.any p:=by
 unfold o9
 induction L with
 | nil=>rfl
 | cons a L ih=>
  rw[GL,List.any_cons]
  cases hp:p a with
  | true=>simp
  | false=>simpa using ih
theorem Ex(v:Value)(ss:List ByteArray)(edge:ByteArray)(b B:Nat)(w:World)(hO:aV w B v ss)(hn:ss.length<=1000000)(hx:∀x∈ss,x.size<=1000000000)(he:edge.size<=100000)(hc:w.cell? ⟨b,0,none⟩=some (.string edge))(hm:Max w):
  Calls prog 193 #[v,.func (.func 263) #[] #[.pointer (some ⟨b,0,none⟩)]] w fun e w'=>wV (o9 (fun x=>Lib.contains x.data.toList (gU edge.data.toList)) ss) ss.length e/\Below w.heap.size w w':=by
 obtain⟨A,n,cap,hv⟩:=hO.slice
 subst hv
 have hnl:=hO.len
 have hn1:n<=ss.length:=Z9 hnl
 have hn2:ss.length<=n:=Z9 hnl.symm
 have HO:=Box.m hO
 have HX:=Box.m hx
 have HM:=Box.m hm
 have hcl:=World.block_lt_of_cell? w _ hc
 have HC:=Box.m hc
 obtain⟨p,HP⟩:∃p:ByteArray->Bool,Box (p=fun x=>Lib.contains x.data.toList (gU edge.data.toList)):=⟨_,⟨rfl⟩⟩
 rw[<-HP.o]
 obtain⟨R,HR⟩:∃R,Box (R=o9 p ss):=⟨_,⟨rfl⟩⟩
 rw[<-HR.o]
 have HL:Box (∀m,m=ss.length->m=n):=⟨fun m h=>by omega⟩
 clear hO hnl hx hm hc
 go_enter func193,ntmps193
 go_wp2
 go_loopw [8] (fun i wr=>∃k:Nat,k<=n/\i=.int .i64 k/\Below w.heap.size w wr/\Box ((ss.take k).all (fun x=>!p x)=true)) (fun i _=>n - (intOf i).toNat)
 case atStart=>exact⟨0,aaa _,rfl,Below.refl _ _,⟨by simp⟩⟩
 case round=>
  obtain⟨k,hk,rfl,hb,HA⟩:=hrel
  by_cases hlt:k<n
  ·have hkl:k<ss.length:=by omega
   obtain⟨x,HXk⟩:∃x,Box (ss[k]?=some x):=⟨_,⟨Xu hkl⟩⟩
   obtain⟨g,hA,hg,hcell⟩:=HO.o.at hb k x HXk.o
   subst hA
   have hxs:=HX.o x (Z4 HXk.o)
   have HCL:=Box.m (Hr x edge b wr hxs he ((hb.cell (p:=⟨b,0,none⟩) hcl).trans HC.o) (HM.o.below hb HM.o.1))
   have hpx:Lib.contains x.data.toList (gU edge.data.toList)=p x:=by rw[HP.o]
   rw[hpx]at HCL
   clear hpx hkl
   cases hq:p x
   ·have HA':Box ((ss.take (k+1)).all (fun x=>!p x)=true):=⟨by
     rw[Z5,HXk.o,List.all_append,HA.o]
     simp[hq]⟩
    rw[hq]at HCL
    clear HO HX HA HXk hq
    go_wp2_with fail
    refine HCL.o.mono ?_
    rintro e w1 ⟨rfl,hb1⟩
    clear HCL
    go_wp2
    go_roundw
    case rel=>exact⟨k+1,by omega,by go_num,hb.trans (hb1.mono hb.size),HA'⟩
    case measure=>simp[intOf];omega
   ·have HE:Box (R=k):=⟨by rw[HR.o];exact Ju p ss k x HXk.o HA.o hq⟩
    rw[hq]at HCL
    clear HO HX HA HXk hq
    go_wp2_with fail
    refine HCL.o.mono ?_
    rintro e w1 ⟨rfl,hb1⟩
    clear HCL
    go_wp2
    go_ret
    exact⟨by rw[HE.o];exact .inl ⟨by omega,rfl⟩,hb.trans (hb1.mono hb.size)⟩
  ·have HE:Box (R=ss.length):=⟨by
    have h1:=HA.o
    rw[Z6 (by omega)]at h1
    rw[HR.o];exact KW p ss h1⟩
   clear HO HX HA
   go_wp2
   go_ret
   exact⟨by rw[HE.o];exact .inr ⟨rfl,rfl⟩,hb⟩
theorem wT(v:Value)(ss:List ByteArray)(edge:ByteArray)(b B:Nat)(w:World)(hO:aV w B v ss)(hn:ss.length<=1000000)(hx:∀x∈ss,x.size<=1000000000)(he:edge.size<=100000)(hc:w.cell? ⟨b,0,none⟩=some (.string edge))(hm:Max w):
  Calls prog 127 #[v,.func (.func 263) #[] #[.pointer (some ⟨b,0,none⟩)]] w fun e w'=>e=.returned (.bool ((ss.map lst).any fun x=>Lib.contains x (gU edge.data.toList)))/\Below w.heap.size w w':=by
 have HI:=Box.m (Ex v ss edge b B w hO hn hx he hc hm)
 have HA:Box ((ss.map lst).any (fun x=>Lib.contains x (gU edge.data.toList))=decide (o9 (fun x=>Lib.contains x.data.toList (gU edge.data.toList)) ss<ss.length)):=⟨by
  rw[MN,List.any_map];rfl⟩
 rw[HA.o]
 obtain⟨r,hr⟩:∃r,r=o9 (fun x=>Lib.contains x.data.toList (gU edge.data.toList)) ss:=⟨_,rfl⟩
 rw[<-hr]at HI ⊢
 obtain⟨Q,HQ⟩:∃Q,Box (Q=decide (r<ss.length)):=⟨_,⟨rfl⟩⟩
 rw[<-HQ.o]
 clear HA hr hO hx hc hm
 go_enter func127,ntmps127
 go_wp2_with fail
 refine HI.o.mono ?_
 rintro e w1 ⟨hI,hb1⟩
 rcases hI with⟨hlt,rfl⟩|⟨hlt,rfl⟩
 ·have HE:Box (Q=true):=⟨by rw[HQ.o,decide_eq_true hlt]⟩
  clear HQ HI
  go_wp2
  go_ret
  exact⟨by rw[HE.o];rfl,hb1⟩
 ·have HE:Box (Q=false):=⟨by rw[HQ.o,decide_eq_false (by omega)]⟩
  clear HQ HI
  go_wp2
  go_ret
  exact⟨by rw[HE.o];rfl,hb1⟩
end Go.Proofs.YtkldkhdigkpniaaGreatDoor
