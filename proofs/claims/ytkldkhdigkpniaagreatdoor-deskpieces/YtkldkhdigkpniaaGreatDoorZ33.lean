import Derived.Test.YtkldkhdigkpniaaGreatDoorZ32
open List renaming length_append → GL, length_cons → VQ, mem_cons → Ws, all_eq_true → Xu, mem_append → ZV, length_singleton → ZW, mem_of_find?_eq_some → ZX, map_cons → ZY, headD_cons → ZZ, tail_cons → Z0, map_map → Z4
namespace Go.Proofs.YtkldkhdigkpniaaGreatDoor
open Go.RowKit Go.Proofs.Tryz
structure HdB(L:List PB):Prop where
 right:L.all dZ=true
 len:L.length<=2990
 fs:∀f∈L,f.1.length<=2500/\f.2.length<=2500
 sz:hsz L<=9000
structure xB(b:BB):Prop where
 op:Tm b
 hd:HdB b.head
 many:∃e,aS b.head=.ok (some e)
 n:b.ps.length<=60
 ps:∀p∈b.ps,HdB p.head/\aS p.head=.ok none/\p.body.length<=3000
theorem EY{α β:Type}(f:Nat->α->Except Nat (β×Nat)):∀(xs:List α) (n:Nat) (r:List β×Nat),dA f xs n=.ok r->∀x∈xs,∃m y,f m x=.ok y
 | [],_,_,_=>fun x hx=>by cases hx
 | x::xs,n,r,h=>by
  obtain⟨y,k,zs,h1,h2,_⟩:=xG f x xs n r.2 r.1 h
  intro z hz
  rcases Ws.1 hz with rfl|hz
  ·exact⟨n,_,h1⟩
  ·exact EY f xs k _ h2 z hz
theorem U8(s:aa)(p:PT)(b:BB)(h:gB s=.ok p)(hs:s.length<=2500)(ho:EM p=some b):xB b:=by
 have hsm:=Y1 s p h hs
 have hop:=P9 p b ho
 obtain⟨n',t,hw⟩:∃n' t,kT Y0 4 0 p=.ok (t,n'):=by
  unfold gB at h
  split at h
  ·cases h
  ·cases hr:bU 4 0 s with
   | error c=>rw[hr]at h;cases h
   | ok r=>
    rw[hr]at h
    cases h
    rw[OG]at hr
    obtain⟨t,ht⟩:=zP Y0 4 0 s r.1 r.2 hr
    exact⟨_,t,ht⟩
 obtain⟨L,x,m,ps⟩:=p
 obtain⟨hn,hL,hf⟩:=zX Y0 3 0 n' L x m ps t hw
 obtain⟨⟨s1,s2,s3⟩,s4,s5,s6⟩:=hsm
 rw[EM]at ho
 split at ho
 ·rename_i hc
  simp only[Bool.and_eq_true,decide_eq_true_eq,Bool.not_eq_true',List.isEmpty_eq_false_iff]at hc
  obtain⟨⟨hk,hne⟩,hall⟩:=hc
  obtain rfl:=Option.some.inj ho
  rcases hf with⟨rfl,rfl,b0,xs,hm,ha,_⟩|⟨_,rfl,_⟩
  ·refine⟨hop,⟨hL,s1,s2,s3⟩,⟨b0,hm⟩,by simpa using s5,?_⟩
   intro q hq
   obtain⟨r,hr,rfl⟩:=List.mem_map.1 hq
   obtain⟨mm,y,hy⟩:=EY _ _ _ _ ha r hr
   have hmr:=Xu.1 hall r hr
   have hsr:=s6 r hr
   obtain⟨L',x',m',ps'⟩:=r
   have hm':m'=false:=by simpa[rO]using hmr
   subst hm'
   obtain⟨⟨t1,t2,t3⟩,t4,t5,t6⟩:=hsr
   obtain⟨_,hL',hf'⟩:=zX Y0 2 mm y.2 L' x' false ps' y.1 hy
   rcases hf' with⟨hbad,_⟩|⟨_,_,hm2,_⟩
   ·cases hbad
   ·exact⟨⟨hL',t1,t2,t3⟩,hm2,t4⟩
  ·exact absurd rfl hne
 ·cases ho
theorem Jc(v:aa):∀(L:List PB),∀f∈C8 v L,f∈L\/((∃g∈L,f.1=g.1)/\f.2=v)
 | [],f,hf=>by cases hf
 | g::L,f,hf=>by
  unfold C8 at hf
  split at hf
  ·rcases Ws.1 hf with rfl|hf
   ·exact .inr ⟨⟨g,by simp,rfl⟩,rfl⟩
   ·exact .inl (by simp[hf])
  ·rcases Ws.1 hf with rfl|hf
   ·exact .inl (by simp)
   ·rcases Jc v L f hf with h|⟨⟨x,hx,h1⟩,h2⟩
    ·exact .inl (by simp[h])
    ·exact .inr ⟨⟨x,by simp[hx],h1⟩,h2⟩
theorem Us(v:aa)(L:List PB):(C8 v L).length=L.length:=by
 induction L with
 | nil=>rfl
 | cons f L ih=>
  unfold C8
  split
  ·simp
  ·simp[ih]
theorem Sm(v:aa)(L:List PB):hsz (C8 v L)<=hsz L+v.length:=by
 induction L with
 | nil=>simp[C8,hsz]
 | cons f L ih=>
  unfold C8
  split
  ·rw[fB,fB];simp only;omega
  ·rw[fB,fB];omega
theorem BU(c:UInt8):(sN c).length<=6:=by
 unfold sN
 repeat' split
 all_goals simp
theorem qg(s:aa):(eY s).length<=6*s.length:=by
 induction s with
 | nil=>simp[eY]
 | cons c s ih=>
  have:=BU c
  have e:eY (c::s)=sN c++eY s:=by simp[eY]
  rw[e,GL,VQ]
  omega
theorem Q0(s:aa)(h:∀c∈s,nY c):eY s=s:=by
 induction s with
 | nil=>rfl
 | cons c s ih=>
  have e:eY (c::s)=sN c++eY s:=by simp[eY]
  obtain⟨h1,h2,h3,h4,h5⟩:=h c (by simp)
  have e2:sN c=[c]:=by unfold sN;simp[h1,h2,h3,h4,h5]
  rw[e,e2,ih (fun x hx=>h x (by simp[hx]))]
  rfl
theorem SG(a b:aa):eY (a++b)=eY a++eY b:=by simp[eY]
theorem Pt(n:Nat):∀c∈Lib.decDigits n,nY c:=by
 intro c hc
 have:=jM n c hc
 unfold nY
 refine⟨?_,?_,?_,?_,?_⟩<;>(rintro rfl;simp at this)
theorem J4(n k:Nat):∀c∈fA n k,nY c:=by
 intro c hc
 unfold fA at hc
 simp only[ZV]at hc
 rcases hc with hc|hc|hc
 ·have key:∀c∈EK,nY c:=by unfold nY;decide
  exact key c hc
 ·exact Pt n c hc
 ·exact M3 k c hc
theorem uC(n k:Nat)(hn:n<100)(hk:(gZ k).length<=12):(fA n k).length<=18:=by
 unfold fA
 rw[GL,GL,Lib.decDigits_length]
 have:=fI 1 n (by omega)
 have e:EK.length=4:=rfl
 omega
theorem Pv(ps:List BP)(loc:AB)(k:Nat)(v:aa)(hp:ps.length<=60)(hk:(gZ k).length<=12):(eY (jN ps loc k v)).length<=6*v.length+23:=by
 unfold jN
 cases hl:(iJ ps loc v).2 with
 | none=>have:=qg v;simp only;omega
 | some n=>
  have hn:n<ps.length:=by
   unfold iJ at hl
   cases hr:bM v with
   | none=>rw[hr]at hl;cases hl
   | some x=>rw[hr]at hl;exact xE _ _ _ hl
  have hfr:(((bM v).getD eZ).frag).length<=v.length:=by
   cases hr:bM v with
   | none=>simp[eZ]
   | some x=>
    have h1:=Bl v x hr
    simp only[Option.getD_some]
    cases hf:x.hasF with
    | false=>rw[h1.2.frag0 hf];simp
    | true=>
     have h2:=congrArg List.length h1.1
     unfold bQ at h2
     rw[hf]at h2
     simp only[GL,if_true,VQ]at h2
     omega
  have hi:=uC n k (by omega) hk
  simp only
  generalize ((bM v).getD eZ).hasF=hf at *
  generalize ((bM v).getD eZ).frag=fr at *
  have e:bQ (QY n k hf fr)=([99,105,100,58]++fA n k)++(if hf then 35::fr else []):=by
   unfold bQ QY
   simp[Xt]
  have hpl:∀c∈[99,105,100,58]++fA n k,nY c:=by
   intro c hc
   rcases ZV.1 hc with hc|hc
   ·have key:∀c∈([99,105,100,58]:aa),nY c:=by unfold nY;decide
    exact key c hc
   ·exact J4 n k c hc
  rw[e,SG,Q0 _ hpl,GL,GL]
  have e4:([99,105,100,58]:aa).length=4:=rfl
  cases hf with
  | false=>simp[eY];omega
  | true=>
   have e5:eY (35::fr)=[35]++eY fr:=by
    have:eY (35::fr)=sN 35++eY fr:=by simp[eY]
    rw[this]
    rfl
   simp only[if_true]
   rw[e5,GL,ZW]
   have:=qg fr
   omega
def pJ:List dD->Nat
 | []=>0
 | (_,none)::its=>pJ its
 | (_,some (v,_))::its=>v.length+pJ its
theorem FC(s:aa):(dH s).length<=s.length:=by
 have:∀(k:Nat) (s:aa),(fJ k s).length<=s.length:=by
  intro k
  induction k with
  | zero=>intro s;cases s<;>simp[fJ]
  | succ k ih=>
   intro s
   cases s with
   | nil=>simp[fJ]
   | cons c r=>
    show List.length (match qz.find? (fun w=>w.1.isPrefixOf (ah (c::r)))with|some w=>w.2::fJ k ((c::r).drop w.1.length)|none=>c::fJ k r)<=_
    split
    ·rename_i w hf
     have hm:=ZX hf
     have hp:0<w.1.length:=by
      have key:∀w∈qz,0<w.1.length:=by decide
      exact key w hm
     have h1:=ih ((c::r).drop w.1.length)
     rw[List.length_drop,VQ]at h1
     rw[VQ,VQ]
     omega
    ·have:=ih r
     simp only[VQ]
     omega
 exact this _ s
theorem AX(F:aa->aa)(hF:∀v,(F v).length<=6*v.length+23):∀(its:List dD) (k:Nat) (tl:aa),(gV its ((aC k its).map fun q=>F q.2.2) tl).length<=(jc its tl).length+6*pJ its+25*eF its
 | [],k,tl=>by simp[gV,jc,pJ,eF]
 | (c,none)::its,k,tl=>by
  have:=AX F hF its (k+c.length) tl
  rw[aC,gV,jc,pJ,eF,GL,GL]
  omega
 | (c,some (v,true))::its,k,tl=>by
  have:=AX F hF its (k+c.length+v.length+1) tl
  have h1:=hF (dH v)
  have h2:=FC v
  rw[aC,gV,jc,pJ,eF,ZY]
  simp only[ZZ,Z0,GL,VQ,if_true]
  omega
 | (c,some (v,false))::its,k,tl=>by
  have:=AX F hF its (k+c.length+v.length+0) tl
  have h1:=hF (dH v)
  have h2:=FC v
  rw[aC,gV,jc,pJ,eF,ZY]
  simp only[ZZ,Z0,GL,VQ,Bool.false_eq_true,if_false]
  omega
theorem U5:∀(m:Md) (s:aa) (its:List dD) (tl:aa),Run m s its tl->pJ its+eF its<=s.length:=by
 intro m s its tl h
 induction h with
 | stop=>simp[pJ,eF]
 | go m m' s c r tl e its hs _ ih=>
  match m with
  | none=>
   have hs:aR s=some (c,e,m',r):=hs
   obtain⟨rfl,h1,h2,_⟩:=qh s c r r e m' hs rfl
   rw[pJ,eF,h1,GL]
   omega
  | some (true,n)=>
   have hs:dF n s=some (c,e,m',r):=hs
   unfold dF at hs
   obtain⟨q,hq,hq2⟩:=Option.map_eq_some_iff.1 hs
   simp only[Prod.mk.injEq]at hq2
   obtain⟨rfl,rfl,rfl,rfl⟩:=hq2
   have h1:=(lu _ _ q.1 q.2 hq).1
   have:=congrArg List.length h1
   rw[GL]at this
   rw[pJ,eF]
   omega
  | some (false,n)=>
   have hs:bi n s=some (c,e,m',r):=hs
   match e with
   | none=>
    obtain⟨h1,h2,_⟩:=tJ n s c r r m' hs rfl
    rw[pJ,eF,h1,GL]
    omega
   | some (v,b)=>
    obtain⟨_,h2,⟨_,q,_,_,h1,_⟩|⟨_,h1,_⟩⟩:=r9 n s c r v b m' hs
    all_goals
     have:=List.length_pos_iff.2 h2
     rw[pJ,eF,h1]
     simp only[GL,VQ]
     omega
theorem BD(ps:List BP)(p:BP)(k:Nat)(hp:ps.length<=60)(hk:(gZ k).length<=12)(hb:p.body.length<=3000):(mW ps p k).length<=90000:=by
 unfold mW
 by_cases h0:dO p=[]
 ·rw[if_pos h0];omega
 ·rw[if_neg h0]
  have hl:dO p=um p.body:=by
   unfold dO at h0 ⊢
   split
   ·rfl
   ·rename_i hh
    rw[if_neg hh]at h0
    exact absurd rfl h0
  have e:((dO p).map (jN ps p.loc k)).map eY=(aC 0 (nD p.body)).map fun q=>(eY (jN ps p.loc k q.2.2)):=by
   rw[hl]
   unfold um
   rw[Z4,Z4]
   rfl
  rw[e]
  have h1:=AX (fun v=>eY (jN ps p.loc k v)) (fun v=>Pv ps p.loc k v hp hk) (nD p.body) 0 (tlP p.body)
  have h2:=U5 _ _ _ _ (fV p.body)
  have h3:=(lD p.body (nD p.body) (tlP p.body) (fV p.body) []).1
  rw[<-h3]at h1
  omega
theorem M9(b:BB)(h:xB b)(k:Nat)(hk:(gZ k).length<=12):SmT 2 (nu b k):=by
 unfold nu
 have hid:=uC b.root k (by have:=h.op.root;have:=h.n;omega) hk
 have hst:(nR b.head (fA b.root k)).length<=7700:=by
  obtain⟨f,ps,h1,h2,h3⟩:=E8 b.head Bp TB h.op.rel
  unfold nR
  rw[h3]
  simp only
  have hf:=h.hd.fs f (ZX h1)
  have h4:=wW f.2 _ h2
  have h5:=Ae Bp ((ps.filter fun p=>!decide (p.1=stN))++[(stN,cK (fA b.root k))])
  have h6:l8 ((ps.filter fun p=>!decide (p.1=stN))++[(stN,cK (fA b.root k))])<=l8 ps+29:=by
   have e:∀a c:List PB,l8 (a++c)=l8 a+l8 c:=fun a c=>by simp[l8]
   rw[e]
   have e1:l8 [(stN,cK (fA b.root k))]<=29:=by
    have e2:stN.length=5:=rfl
    have e3:(cK (fA b.root k)).length=(fA b.root k).length+2:=by simp[cK]
    rw[fU,e2,e3]
    simp[l8]
    omega
   have e4:l8 (ps.filter fun p=>!decide (p.1=stN))<=l8 ps:=by
    clear h1 h2 h3 h4 h5
    induction ps with
    | nil=>simp
    | cons p ps ih=>
     rw[List.filter_cons]
     split
     ·rw[fU,fU];omega
     ·rw[fU];omega
   omega
  have e0:Bp.length=17:=rfl
  simp only at h4
  omega
 refine⟨⟨?_,?_,?_⟩,by simp,by simpa using h.n,?_⟩
 ·unfold j4
  rw[Us]
  have:=h.hd.len
  omega
 ·intro f hf
  unfold j4 at hf
  rcases Jc _ _ f hf with hm|⟨⟨g,hg,e1⟩,e2⟩
  ·have:=h.hd.fs f hm;omega
  ·have:=h.hd.fs g hg
   rw[e1,e2]
   omega
 ·unfold j4
  have:=Sm (nR b.head (fA b.root k)) b.head
  have:=h.hd.sz
  omega
 ·intro q hq
  obtain⟨i,hi,rfl⟩:=List.mem_mapIdx.1 hq
  obtain⟨hp,_,hb⟩:=h.ps b.ps[i] (List.getElem_mem hi)
  have hid:=uC i k (by have:=h.n;omega) hk
  have h1:((b.ps[i].head).filter fun f=>!decide (ah f.1=ciN)).length<=b.ps[i].head.length:=List.length_filter_le _ _
  have ea:(cK (fA i k)).length=(fA i k).length+2:=by simp[cK]
  have ec:ciB.length=10:=rfl
  unfold zq
  refine⟨⟨?_,?_,?_⟩,?_,by simp,fun p hp=>by cases hp⟩
  ·unfold ui
   rw[GL,ZW]
   have:=hp.len
   omega
  ·intro f hf
   unfold ui at hf
   rcases ZV.1 hf with hf|hf
   ·have:=hp.fs f (List.mem_filter.1 hf).1;omega
   ·rw[List.mem_singleton.1 hf]
    simp only
    omega
  ·unfold ui
   have e0:hsz ([]:List PB)=0:=rfl
   have:=rG (fun f=>!decide (ah f.1=ciN)) b.ps[i].head
   have:=hp.sz
   rw[GI,fB,e0]
   simp only
   omega
  ·have:=BD b.ps b.ps[i] k h.n hk hb
   omega
def xm:PT->Except Nat BB
 | .mk L _ _ ps=>if (iH L).1≠Bp then .error 6 else if ps=[] then .error 8 else if ps.any rO=true then .error 13 else
   .ok ⟨L,ps.map (kV (dJ eZ L)),oU (ps.map (kV (dJ eZ L))) (kE (iH L).2)⟩
def oF(s:aa):Except Nat BB:=match gB s with
 | .error c=>.error c
 | .ok p=>xm p
theorem Xi(p:PT)(b:BB):xm p=.ok b↔EM p=some b:=by
 obtain⟨L,x,m,ps⟩:=p
 rw[xm,EM]
 by_cases h1:(iH L).1=Bp
 ·cases ps with
  | nil=>simp[h1]
  | cons q ps=>
   cases hm:(q::ps).any rO with
   | true=>
    have:(q::ps).all (fun p=>!rO p)=false:=by
     rw[Bool.eq_false_iff]
     intro ha
     rw[Xu]at ha
     obtain⟨z,hz,hz2⟩:=List.any_eq_true.1 hm
     have:=ha z hz
     rw[hz2]at this
     cases this
    rw[this]
    simp[h1]
   | false=>
    have:(q::ps).all (fun p=>!rO p)=true:=by
     rw[Xu]
     intro z hz
     have:=List.any_eq_false.1 hm z hz
     simpa using this
    rw[this]
    simp[h1]
 ·simp[h1]
def HdT:Nat->PT->Prop
 | 0,_=>False
 | d+1,.mk L b _ ps=>L.length<=20000/\(∀f∈L,f.1.length<=20000/\f.2.length<=20000)/\b.length<=20000/\ps.length<=40/\∀p∈ps,HdT d p
theorem IQ:∀(d n:Nat) (s:aa) (q:PT×Nat),bU d n s=.ok q->n<=40->s.length<=20000->HdT d q.1
 | 0,n,s,q,h,_,_=>by cases h
 | d+1,n,s,q,h,hn,hs=>by
  have hcnt:=pO (d+1) n s q h hn
  unfold bU at h
  split at h
  ·cases h
  ·cases h1:iA s with
   | error c=>rw[h1]at h;cases h
   | ok hh=>
    rw[h1]at h
    simp only at h
    obtain⟨l1,l2,l3⟩:=yz s hh h1
    have hhd:hh.1.length<=20000/\(∀f∈hh.1,f.1.length<=20000/\f.2.length<=20000):=⟨by omega,fun f hf=>by have:=l2 f hf;omega⟩
    cases h2:aS hh.1 with
    | error c=>rw[h2]at h;cases h
    | ok o=>
     rw[h2]at h
     cases o with
     | none=>
      simp only at h
      cases h3:eX hh.1 hh.2 with
      | error c=>rw[h3]at h;cases h
      | ok b=>
       rw[h3]at h
       cases h
       have:=zn _ _ _ h3
       exact⟨hhd.1,hhd.2,by omega,by simp,fun p hp=>by cases hp⟩
     | some b=>
      simp only at h
      cases h3:dV b hh.2 with
      | none=>rw[h3]at h;cases h
      | some xs=>
       rw[h3]at h
       simp only at h
       have hx:=ut _ _ _ h3
       cases h4:dA (bU d) xs (n+1)with
       | error c=>rw[h4]at h;cases h
       | ok r=>
        rw[h4]at h
        cases h
        have hc:=uF (wK d) xs (n+1) r h4
        have hall:∀(xs:List (aa)) (n:Nat) (r:List PT×Nat),(∀x∈xs,x.length<=20000)->dA (bU d) xs n=.ok r->r.2<=40->n<=40->∀p∈r.1,HdT d p:=by
         intro xs
         induction xs with
         | nil=>intro n r _ h _ _ p hp;cases h;cases hp
         | cons x xs ihx=>
          intro n r hl h hr hn p hp
          obtain⟨y,k,zs,h1,h2,h3⟩:=xG _ _ _ _ _ _ (show dA (bU d) (x::xs) n=.ok (r.1,r.2)from h)
          have a:=pO d n x (y,k) h1 hn
          rw[h3]at hp
          rcases Ws.1 hp with rfl|hp
          ·exact IQ d n x (p,k) h1 hn (hl x (by simp))
          ·exact ihx k (zs,r.2) (fun z hz=>hl z (by simp[hz])) h2 hr a p hp
        simp only at hcnt
        exact⟨hhd.1,hhd.2,by simp,by omega,hall xs (n+1) r (fun x hx'=>by have:=hx x hx';omega) h4 hcnt (by omega)⟩
theorem Yj(s:aa)(q:PT)(h:gB s=.ok q):HdT 4 q:=by
 unfold gB at h
 split at h
 ·cases h
 ·cases hr:bU 4 0 s with
  | error c=>rw[hr]at h;cases h
  | ok r=>
   rw[hr]at h
   cases h
   exact IQ 4 0 s r hr (by omega) (by omega)
end Go.Proofs.YtkldkhdigkpniaaGreatDoor
