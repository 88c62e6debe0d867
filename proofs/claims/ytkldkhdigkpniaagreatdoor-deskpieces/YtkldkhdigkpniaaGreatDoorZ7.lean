import Derived.Test.YtkldkhdigkpniaaGreatDoorZ4
import Derived.Lib.IndexMore
open Bool renaming and_eq_true → GL, or_eq_true → VQ
open List renaming all_eq_true → Ws, all_cons → Xu, mem_cons → ZV, mem_append → ZW, length_cons → ZX, length_append → ZY, flatMap_cons → ZZ, length_drop → Z0, mem_cons_self → Z4, mem_cons_of_mem → Z5, takeWhile_append_dropWhile → Z6, mem_flatMap → Z7, append_assoc → Z8, mem_filter → Z9
open Option renaming map_eq_some_iff → aaa, bind_eq_some_iff → aab, isSome_iff_exists → aac
namespace Go.Proofs.YtkldkhdigkpniaaGreatDoor
open Go.RowKit Go.Proofs.Tryz
abbrev PB:=aa×aa
def inC(c:UInt8):Bool:=decide (32<=c.toNat)&&decide (c.toNat<=126)
def pU:aa:=[40,41,60,62,64,44,59,58,92,34,47,91,93,63,61]
def dK(c:UInt8):Bool:=decide (33<=c.toNat)&&decide (c.toNat<=126)&&!pU.contains c
def kP(l:aa):Bool:=!l.isEmpty&&l.all dK
def lC(l:aa):Bool:=kP (l.takeWhile (· != 47))&&((l.dropWhile (· != 47)).isEmpty||kP ((l.dropWhile (· != 47)).drop 1))
def bf:aa->Option (aa×aa)
 | []=>none
 | c::r=>if c=34 then some ([],r) else if c=92 then (match r with|[]=>none|d::r'=>if inC d then (bf r').map fun q=>(d::q.1,q.2) else none) else if inC c then (bf r).map fun q=>(c::q.1,q.2) else none
def qY(nm r5:aa):Option (PB×aa):=
 if r5.head?=some 34 then (bf (r5.drop 1)).map fun q=>((ah nm,q.1),aW q.2)
 else if r5.takeWhile dK=[] then none else some ((ah nm,r5.takeWhile dK),aW (r5.dropWhile dK))
def xM(r:aa):Option (PB×aa):=
 if (aW r).takeWhile dK=[] then none
 else if (aW ((aW r).dropWhile dK)).head?=some 61 then qY ((aW r).takeWhile dK) (aW ((aW ((aW r).dropWhile dK)).drop 1)) else none
def bS:Nat->aa->Option (List PB)
 | 0,l=>if l=[] then some [] else none
 | n+1,l=>if l=[] then some [] else if l.head?=some 59 then (xM (l.drop 1)).bind fun q=>(bS n q.2).map fun k=>q.1::k else none
def eO(s:aa):Option (aa×List PB):=
 if lC (ah (trimS (s.takeWhile (· != 59)))) then (bS s.length (s.dropWhile (· != 59))).map fun k=>(ah (trimS (s.takeWhile (· != 59))),k) else none
def vR(c:UInt8):aa:=if c=34\/c=92 then [92,c] else [c]
def wS(v:aa):aa:=if kP v then v else 34::(v.flatMap vR++[34])
def jE(p:PB):aa:=[59,32]++p.1++[61]++wS p.2
def eQ(m:aa)(l:List PB):aa:=m++l.flatMap jE
def qA(m:aa):Bool:=lC m&&decide (ah m=m)
def kG(p:PB):Bool:=kP p.1&&decide (ah p.1=p.1)&&p.2.all inC
def xZ(m:aa)(l:List PB):Bool:=qA m&&l.all kG
theorem mQ(c:UInt8)(h:dK c=true):blk c=false/\c≠59/\c≠61/\c≠34/\c≠47/\inC c=true/\dK (aQ c)=true:=by
 have key:∀n:Fin 256,dK (UInt8.ofNat n.val)=true->blk (UInt8.ofNat n.val)=false/\UInt8.ofNat n.val≠59/\UInt8.ofNat n.val≠61/\UInt8.ofNat n.val≠34/\UInt8.ofNat n.val≠47/\inC (UInt8.ofNat n.val)=true/\dK (aQ (UInt8.ofNat n.val))=true:=by decide +kernel
 have:=key ⟨c.toNat,c.toNat_lt⟩
 simp at this
 have e:UInt8.ofNat c.toNat=c:=by simp
 simpa using this h
theorem Be(c:UInt8):aQ (aQ c)=aQ c:=by
 have key:∀n:Fin 256,aQ (aQ (UInt8.ofNat n.val))=aQ (UInt8.ofNat n.val):=by decide +kernel
 have:=key ⟨c.toNat,c.toNat_lt⟩
 simpa using this
theorem zw(l:aa):ah (ah l)=ah l:=by
 unfold ah
 rw[List.map_map]
 exact List.map_congr_left fun c _=>Be c
theorem nM{l:aa}(h:kP l=true):∃c r,l=c::r/\dK c=true/\∀d∈l,dK d=true:=by
 unfold kP at h
 simp only[GL,Bool.not_eq_true',Ws]at h
 cases l with
 | nil=>exact absurd h.1 (by simp)
 | cons c r=>exact⟨c,r,rfl,h.2 c Z4,h.2⟩
theorem Pb{l:aa}(h0:l≠[])(h:∀d∈l,dK d=true):kP l=true:=by
 unfold kP
 rw[Ws.2 h]
 cases l with
 | nil=>exact absurd rfl h0
 | cons c r=>rfl
theorem NB{l:aa}(h:kP l=true):kP (ah l)=true:=by
 obtain⟨c,r,rfl,_,hall⟩:=nM h
 refine Pb (by simp[ah]) fun d hd=>?_
 obtain⟨e,he,rfl⟩:=List.mem_map.1 hd
 exact(mQ e (hall e he)).2.2.2.2.2.2
theorem bI{p:UInt8->Bool}(a b:aa)(ha:∀c∈a,p c=true)(hb:b.head?.all (fun c=>!p c)=true):(a++b).takeWhile p=a/\(a++b).dropWhile p=b:=by
 induction a with
 | nil=>
  cases b with
  | nil=>exact⟨rfl,rfl⟩
  | cons c b=>
   have hc:p c=false:=by simpa using hb
   simp[hc]
 | cons c a ih=>
  have hc:=ha c Z4
  obtain⟨i1,i2⟩:=ih fun d hd=>ha d (Z5 _ hd)
  rw[List.cons_append,List.takeWhile_cons,List.dropWhile_cons,hc]
  simp[i1,i2]
theorem RS(m:aa)(h:lC m=true):m≠[]/\(∀c∈m,dK c=true\/c=47)/\m.head?.all (fun c=>!blk c)=true/\m.getLast?.all (fun c=>!blk c)=true:=by
 unfold lC at h
 simp only[GL,VQ]at h
 obtain⟨h1,h2⟩:=h
 obtain⟨c,r,hcr,hc,hall⟩:=nM h1
 have hsplit:=Z6 (p:=fun x:UInt8=>x != 47) (l:=m)
 have hne:m≠[]:=by
  intro e
  rw[e]at hcr
  simp at hcr
 have hmem:∀c∈m,dK c=true\/c=47:=by
  intro d hd
  rw[<-hsplit]at hd
  rcases ZW.1 hd with hd|hd
  ·exact .inl (hall d hd)
  ·rcases h2 with h2|h2
   ·have:m.dropWhile (· != 47)=[]:=List.isEmpty_iff.1 h2
    rw[this]at hd
    simp at hd
   ·cases hw:m.dropWhile (· != 47)with
    | nil=>rw[hw]at hd;simp at hd
    | cons a b=>
     rw[hw]at hd h2
     have ha:a=47:=by
      have:=List.head_dropWhile_not (fun x:UInt8=>x != 47) (l:=m) (by rw[hw];simp)
      simp only[hw,List.head_cons]at this
      simpa using this
     rcases ZV.1 hd with rfl|hd
     ·exact .inr ha
     ·obtain⟨_,_,_,_,hall2⟩:=nM h2
      exact .inl (hall2 d hd)
 have hnb:∀c∈m,blk c=false:=fun d hd=>by
  rcases hmem d hd with h|rfl
  ·exact(mQ d h).1
  ·rfl
 refine⟨hne,hmem,?_,?_⟩
 ·cases hh:m.head? with
  | none=>rfl
  | some d=>simp[hnb d (List.mem_of_mem_head? hh)]
 ·cases hh:m.getLast? with
  | none=>rfl
  | some d=>simp[hnb d (List.mem_of_getLast? hh)]
theorem Rx(l:aa):∀n,l.length<=n->∀v r,bf l=some (v,r)->v.all inC=true:=by
 intro n
 induction n generalizing l with
 | zero=>
  intro h v r hq
  have:l=[]:=List.eq_nil_of_length_eq_zero (by omega)
  subst this
  cases hq
 | succ n ih=>
  intro h v r hq
  cases l with
  | nil=>cases hq
  | cons c t=>
   rw[ZX]at h
   unfold bf at hq
   by_cases h1:c=34
   ·rw[if_pos h1]at hq
    simp only[Option.some.injEq,Prod.mk.injEq]at hq
    rw[<-hq.1];rfl
   ·rw[if_neg h1]at hq
    by_cases h2:c=92
    ·rw[if_pos h2]at hq
     cases t with
     | nil=>cases hq
     | cons d t'=>
      simp only at hq
      by_cases h3:inC d=true
      ·rw[if_pos h3]at hq
       obtain⟨q,hq1,hq2⟩:=aaa.1 hq
       simp only[Prod.mk.injEq]at hq2
       rw[<-hq2.1,Xu,h3,ih t' (by simp at h;omega) q.1 q.2 hq1];rfl
      ·rw[if_neg h3]at hq;cases hq
    ·rw[if_neg h2]at hq
     by_cases h3:inC c=true
     ·rw[if_pos h3]at hq
      obtain⟨q,hq1,hq2⟩:=aaa.1 hq
      simp only[Prod.mk.injEq]at hq2
      rw[<-hq2.1,Xu,h3,ih t (by omega) q.1 q.2 hq1];rfl
     ·rw[if_neg h3]at hq;cases hq
theorem bg{p:UInt8->Bool}(l:aa):∀c∈l.takeWhile p,p c=true:=by
 intro c hc
 have:=List.all_takeWhile (p:=p) (l:=l)
 exact Ws.1 this c hc
theorem Mr(nm r5:aa)(hn:kP nm=true)(p:PB)(r:aa)(h:qY nm r5=some (p,r)):kG p=true:=by
 have hnm:kP (ah nm)=true/\ah (ah nm)=ah nm:=⟨NB hn,zw nm⟩
 unfold qY at h
 split at h
 ·obtain⟨q,hq1,hq2⟩:=aaa.1 h
  simp only[Prod.mk.injEq]at hq2
  rw[<-hq2.1]
  unfold kG
  rw[hnm.1,decide_eq_true hnm.2,Rx _ _ af q.1 q.2 hq1];rfl
 ·split at h
  ·cases h
  ·simp only[Option.some.injEq,Prod.mk.injEq]at h
   rw[<-h.1]
   unfold kG
   have:(r5.takeWhile dK).all inC=true:=Ws.2 fun c hc=>(mQ c (bg r5 c hc)).2.2.2.2.2.1
   rw[hnm.1,decide_eq_true hnm.2,this];rfl
theorem Vt(r:aa)(p:PB)(r':aa)(h:xM r=some (p,r')):kG p=true:=by
 unfold xM at h
 split at h
 ·cases h
 ·rename_i hne
  split at h
  ·exact Mr _ _ (Pb hne (bg _)) p r' h
  ·cases h
theorem zA:∀(n:Nat) (l:aa) (k:List PB),bS n l=some k->k.all kG=true
 | 0,l,k,h=>by
  unfold bS at h
  split at h
  ·cases h;rfl
  ·cases h
 | n+1,l,k,h=>by
  unfold bS at h
  split at h
  ·cases h;rfl
  ·split at h
   ·obtain⟨q,hq1,hq2⟩:=aab.1 h
    obtain⟨k',hk1,hk2⟩:=aaa.1 hq2
    rw[<-hk2,Xu,Vt _ q.1 q.2 hq1,zA n _ k' hk1];rfl
   ·cases h
theorem uG(s m:aa)(l:List PB)(h:eO s=some (m,l)):xZ m l=true:=by
 unfold eO at h
 split at h
 ·rename_i hm
  obtain⟨k,hk1,hk2⟩:=aaa.1 h
  simp only[Prod.mk.injEq]at hk2
  obtain⟨rfl,rfl⟩:=hk2
  unfold xZ qA
  rw[hm,decide_eq_true (zw _),zA _ _ _ hk1];rfl
 ·cases h
def nP(c:UInt8):List (aa)->List (aa)
 | []=>[[c]]
 | x::r=>(c::x)::r
def bK:aa->List (aa)
 | []=>[[]]
 | [c]=>[[c]]
 | c::d::t=>if c=13/\d=10 then []::bK t else nP c (bK (d::t))
theorem Lt(t:aa):bK (13::10::t)=[]::bK t:=by
 conv=>lhs;unfold bK
 rw[if_pos ⟨rfl,rfl⟩]
theorem Km(c d:UInt8)(t:aa)(h:¬(c=13/\d=10)):bK (c::d::t)=nP c (bK (d::t)):=by
 conv=>lhs;unfold bK
 rw[if_neg h]
def fK:List (aa)->aa
 | []=>[]
 | [x]=>x
 | x::y::r=>x++13::10::fK (y::r)
theorem qc:∀l:aa,bK l≠[]
 | []=>by simp[bK]
 | [c]=>by simp[bK]
 | c::d::t=>by
  unfold bK
  split
  ·simp
  ·cases bK (d::t)<;>simp[nP]
theorem CO(x:aa)(r:List (aa))(h:r≠[]):fK (x::r)=x++13::10::fK r:=by
 cases r with
 | nil=>exact absurd rfl h
 | cons y r=>rfl
theorem Eb(c:UInt8)(l:List (aa))(h:l≠[]):fK (nP c l)=c::fK l:=by
 cases l with
 | nil=>exact absurd rfl h
 | cons x r=>
  unfold nP
  cases r with
  | nil=>rfl
  | cons y r=>
   have e1:fK ((c::x)::y::r)=(c::x)++13::10::fK (y::r):=rfl
   have e2:fK (x::y::r)=x++13::10::fK (y::r):=rfl
   rw[e1,e2];rfl
theorem oP:∀l:aa,fK (bK l)=l
 | []=>rfl
 | [c]=>rfl
 | c::d::t=>by
  unfold bK
  split
  ·rename_i h
   rw[CO _ _ (qc t),oP t,h.1,h.2];rfl
  ·rw[Eb _ _ (qc _),oP (d::t)]
theorem yT:∀(l x:aa),x∈bK l->∃u v,l=u++x++v
 | [],x,h=>by
  simp[bK]at h
  subst h
  exact⟨[],[],rfl⟩
 | [c],x,h=>by
  simp[bK]at h
  subst h
  exact⟨[],[],rfl⟩
 | c::d::t,x,h=>by
  unfold bK at h
  split at h
  ·rename_i hcd
   rcases ZV.1 h with rfl|h
   ·exact⟨[],c::d::t,rfl⟩
   ·obtain⟨u,v,e⟩:=yT t x h
    exact⟨c::d::u,v,by rw[e];simp⟩
  ·have hne:=qc (d::t)
   cases hs:bK (d::t)with
   | nil=>exact absurd hs hne
   | cons y r=>
    rw[hs]at h
    rcases ZV.1 h with rfl|h
    ·have hj:=oP (d::t)
     rw[hs]at hj
     cases r with
     | nil=>
      refine⟨[],[],?_⟩
      have:y=d::t:=hj
      rw[this];simp
     | cons z r=>
      rw[CO _ _ (by simp)]at hj
      exact⟨[],13::10::fK (z::r),by rw[<-hj];simp⟩
    ·obtain⟨u,v,e⟩:=yT (d::t) x (by rw[hs];exact Z5 _ h)
     exact⟨c::u,v,by rw[e];simp⟩
def gU(b:aa):aa:=45::45::b
def ky(b x:aa):Option Bool:=
 if (gU b).isPrefixOf x then (if trimS (x.drop (gU b).length)=[] then some false else if trimS (x.drop (gU b).length)=[45,45] then some true else none) else none
def uY(b:aa):List (aa)->Bool->List (aa)->Option (List (aa))
 | [],_,_=>none
 | x::r,begun,cur=>match ky b x with
  | none=>uY b r begun (cur++[x])
  | some true=>some (if begun then [fK cur] else [])
  | some false=>(uY b r true []).map fun o=>if begun then fK cur::o else o
def dV(b s:aa):Option (List (aa)):=uY b (bK s) false []
def vH(sub s:aa):Prop:=∀u v,s≠u++sub++v
def jP(b x:aa):aa:=gU b++[13,10]++x++[13,10]
def gK(b:aa)(xs:List (aa)):aa:=xs.flatMap (jP b)++gU b++[45,45,13,10]
def ctN:aa:=[99,111,110,116,101,110,116,45,116,121,112,101]
def xH:aa:=[99,111,110,116,101,110,116,45,116,114,97,110,115,102,101,114,45,101,110,99,111,100,105,110,103]
def uZ:aa:=[67,111,110,116,101,110,116,45,84,114,97,110,115,102,101,114,45,69,110,99,111,100,105,110,103]
def Cf:aa:=[109,117,108,116,105,112,97,114,116,47]
def bdN:aa:=[98,111,117,110,100,97,114,121]
def KN:aa:=[55,98,105,116]
def Xm:aa:=[56,98,105,116]
def WQ:aa:=[98,105,110,97,114,121]
def D8:aa:=[98,97,115,101,54,52]
def qpN:aa:=[113,117,111,116,101,100,45,112,114,105,110,116,97,98,108,101]
def dZ(f:PB):Bool:=jY f.1&&iK f.2
def vg(L:List PB)(n:aa):Option PB:=L.find? fun f=>decide (ah f.1=n)
def nU(ps:List PB):aa:=((ps.find? fun p=>decide (p.1=bdN)).map (·.2)).getD []
def aS(L:List PB):Except Nat (Option (aa)):=
 match vg L ctN with
 | none=>.ok none
 | some f=>match eO f.2 with
  | none=>.error 3
  | some q=>if Cf.isPrefixOf q.1 then (if 1<=(nU q.2).length/\(nU q.2).length<=70/\(nU q.2).getLast?≠some 32 then .ok (some (nU q.2)) else .error 3) else .ok none
def gI(L:List PB):List PB:=L.filter fun f=>!decide (ah f.1=xH)
def setP(bd:aa):List PB->List PB
 | []=>[]
 | p::ps=>if p.1=bdN then (p.1,bd)::ps else p::setP bd ps
def pu(bd v:aa):aa:=match eO v with|some q=>eQ q.1 (setP bd q.2)|none=>[]
def iQ(bd:aa):List PB->List PB
 | []=>[]
 | f::L=>if ah f.1=xH then iQ bd L else if ah f.1=ctN then (f.1,pu bd f.2)::gI L else f::iQ bd L
def KV(bd:aa):Prop:=bd≠[]/\bd.length<=70/\∀c∈bd,dK c=true
theorem OO{bd:aa}(h:KV bd):bd.all inC=true:=by
 rw[Ws]
 intro c hc
 exact(mQ c (h.2.2 c hc)).2.2.2.2.2.1
theorem FZ(bd:aa)(h:bd.all inC=true)(ps:List PB)(hp:ps.all kG=true):(setP bd ps).all kG=true:=by
 induction ps with
 | nil=>rfl
 | cons p ps ih=>
  simp only[Xu,GL]at hp
  unfold setP
  split
  ·simp only[Xu,GL]
   refine⟨?_,hp.2⟩
   have:=hp.1
   unfold kG at this ⊢
   simp only[GL]at this ⊢
   exact⟨this.1,h⟩
  ·simp only[Xu,GL]
   exact⟨hp.1,ih hp.2⟩
theorem Fv(bd v m:aa)(ps:List PB)(hr:eO v=some (m,ps)):pu bd v=eQ m (setP bd ps):=by unfold pu;rw[hr]
theorem qV(bd:aa)(f:PB)(L:List PB):iQ bd (f::L)=if ah f.1=xH then iQ bd L else if ah f.1=ctN then (f.1,pu bd f.2)::gI L else f::iQ bd L:=rfl
theorem XU:ctN≠xH:=by decide
theorem Ql(f:PB)(L:List PB)(n:aa):vg (f::L) n=if ah f.1=n then some f else vg L n:=by
 unfold vg
 rw[List.find?_cons]
 by_cases h:ah f.1=n<;>simp[h]
theorem Jo(L:List PB)(o:Option (aa))(h:aS L=.ok o):∀f,vg L ctN=some f->(eO f.2).isSome=true:=by
 intro f hf
 unfold aS at h
 rw[hf]at h
 simp only at h
 cases hr:eO f.2 with
 | none=>rw[hr]at h;cases h
 | some q=>rfl
theorem Yx(c:UInt8)(h:inC c=true):sJ c=true:=by
 simp only[inC,GL,decide_eq_true_eq]at h
 simp only[sJ,GL,VQ,decide_eq_true_eq]
 omega
theorem Lb(c:UInt8)(h:dK c=true):inC c=true:=(mQ c h).2.2.2.2.2.1
theorem WM(v:aa)(h:v.all inC=true):(∀c∈wS v,inC c=true)/\∃u c,wS v=u++[c]/\blk c=false:=by
 unfold wS
 by_cases ht:kP v=true
 ·rw[if_pos ht]
  obtain⟨c0,r,hv,_,hall⟩:=nM ht
  refine⟨fun c hc=>Lb c (hall c hc),v.dropLast,v.getLast (by rw[hv];simp),(List.dropLast_concat_getLast _).symm,?_⟩
  exact(mQ _ (hall _ (List.getLast_mem _))).1
 ·rw[if_neg ht]
  refine⟨?_,34::v.flatMap vR,34,rfl,by decide⟩
  intro c hc
  rcases ZV.1 hc with rfl|hc
  ·decide
  ·rcases ZW.1 hc with hc|hc
   ·obtain⟨x,hx,hxc⟩:=Z7.1 hc
    unfold vR at hxc
    have hxi:=Ws.1 h x hx
    split at hxc
    ·rcases ZV.1 hxc with rfl|hxc
     ·decide
     ·have:c=x:=by simpa using hxc
      rw[this];exact hxi
    ·have:c=x:=by simpa using hxc
     rw[this];exact hxi
   ·have:c=34:=by simpa using hc
    rw[this];decide
theorem Lg(m:aa)(l:List PB)(h:xZ m l=true):iK (eQ m l)=true:=by
 unfold xZ at h
 simp only[GL]at h
 obtain⟨hm,hl⟩:=h
 unfold qA at hm
 simp only[GL]at hm
 obtain⟨m0,m1,m2,m3⟩:=RS m hm.1
 have hp:∀p∈l,(∀c∈jE p,inC c=true)/\∃u c,jE p=u++[c]/\blk c=false:=by
  intro p hp
  have hg:=Ws.1 hl p hp
  unfold kG at hg
  simp only[GL]at hg
  obtain⟨v1,u,c,hv,hb⟩:=WM p.2 hg.2
  obtain⟨_,_,_,_,ht⟩:=nM hg.1.1
  refine⟨?_,[59,32]++p.1++[61]++u,c,by unfold jE;rw[hv];simp,hb⟩
  intro d hd
  unfold jE at hd
  simp only[ZW,ZV,List.not_mem_nil,or_false]at hd
  rcases hd with(((rfl|rfl)|hd)|rfl)|hd
  ·decide
  ·decide
  ·exact Lb d (ht d hd)
  ·decide
  ·exact v1 d hd
 unfold iK
 simp only[GL,decide_eq_true_eq]
 constructor
 ·rw[Ws]
  intro c hc
  apply Yx
  unfold eQ at hc
  rcases ZW.1 hc with hc|hc
  ·rcases m1 c hc with h|rfl
   ·exact Lb c h
   ·decide
  ·obtain⟨p,hpm,hpc⟩:=Z7.1 hc
   exact(hp p hpm).1 c hpc
 ·rw[KC]
  unfold eQ
  constructor
  ·cases m with
   | nil=>exact absurd rfl m0
   | cons a b=>simpa using m2
  ·rcases List.eq_nil_or_concat l with rfl|⟨l',p,rfl⟩
   ·simpa using m3
   ·obtain⟨_,u,c,hu,hb⟩:=hp p (by simp)
    simp only[List.concat_eq_append,List.flatMap_append,ZZ,List.flatMap_nil,List.append_nil]
    rw[hu,<-Z8,<-Z8,List.getLast?_append]
    simp[hb]
theorem Aj(L:List PB)(h:L.all dZ=true):(gI L).all dZ=true:=by
 rw[Ws]at h ⊢
 intro f hf
 exact h f (Z9.1 hf).1
theorem RV(bd:aa)(hb:KV bd)(L:List PB)(h:L.all dZ=true)(hr:∀f,vg L ctN=some f->(eO f.2).isSome=true):(iQ bd L).all dZ=true:=by
 induction L with
 | nil=>rfl
 | cons f L ih=>
  simp only[Xu,GL]at h
  rw[Ql]at hr
  rw[qV]
  by_cases hc:ah f.1=xH
  ·rw[if_pos hc]
   exact ih h.2 fun g hg=>hr g (by rw[if_neg (by rw[hc];exact Ne.symm XU)];exact hg)
  ·rw[if_neg hc]
   by_cases h2:ah f.1=ctN
   ·rw[if_pos h2]at hr ⊢
    obtain⟨q,hq⟩:=aac.1 (hr f rfl)
    simp only[Xu,GL]
    refine⟨?_,Aj L h.2⟩
    have h1:=h.1
    unfold dZ at h1 ⊢
    simp only[GL]at h1 ⊢
    refine⟨h1.1,?_⟩
    rw[Fv bd f.2 q.1 q.2 hq]
    apply Lg
    have hg:=uG f.2 q.1 q.2 hq
    unfold xZ at hg ⊢
    simp only[GL]at hg ⊢
    exact⟨hg.1,FZ bd (OO hb) q.2 hg.2⟩
   ·rw[if_neg h2]at hr ⊢
    simp only[Xu,GL]
    exact⟨h.1,ih h.2 hr⟩
structure mq where
 hw:List PB->aa
 hr:aa->Except Nat (List PB×aa)
 pk:aa->aa
 up:aa->Option (aa)
 qt:aa->aa
 uq:aa->Option (aa)
 bnd:List (aa)->aa
 back:∀L rest,L.all dZ=true->hr (hw L++rest)=.ok (L,rest)
 good:∀s L rest,hr s=.ok (L,rest)->L.all dZ=true
 up_pk:∀b,up (pk b)=some b
 uq_qt:∀b,uq (qt b)=some b
 bok:∀xs,xs.flatten.length<=20000->KV (bnd xs)
 bap:∀xs,∀x∈xs,vH (gU (bnd xs)) x
def vo:aa->Bool
 | []=>true
 | [c]=>inC c||c==9
 | c::d::r=>if c=13/\d=10 then vo r else (inC c||c==9)&&vo (d::r)
def Pp(Y:mq)(b:aa):aa×aa:=if vo b then (KN,b) else if (Y.pk b).length<(Y.qt b).length then (D8,Y.pk b) else (qpN,Y.qt b)
def kQ(e:Nat):Option (aa)->Except Nat (aa)
 | none=>.error e
 | some b=>.ok b
def AA(Y:mq)(L:List PB)(body:aa):Except Nat (aa):=
 match vg L xH with
 | none=>.ok body
 | some f=>if ah f.2=KN\/ah f.2=Xm\/ah f.2=WQ then .ok body else if ah f.2=D8 then kQ 3 (Y.up body) else if ah f.2=qpN then kQ 3 (Y.uq body) else .error 5
inductive PT
 | mk (head:List PB) (body:aa) (many:Bool) (parts:List PT)
def dA{α β:Type}(f:Nat->α->Except Nat (β×Nat)):List α->Nat->Except Nat (List β×Nat)
 | [],n=>.ok ([],n)
 | x::xs,n=>match f n x with
  | .error e=>.error e
  | .ok q=>match dA f xs q.2 with
   | .error e=>.error e
   | .ok r=>.ok (q.1::r.1,r.2)
def vB(Y:mq):Nat->Nat->aa->Except Nat (PT×Nat)
 | 0,_,_=>.error 4
 | d+1,n,s=>if 40<=n then .error 4 else match Y.hr s with
  | .error e=>.error e
  | .ok h=>match aS h.1 with
   | .error e=>.error e
   | .ok none=>match AA Y h.1 h.2 with
    | .error e=>.error e
    | .ok b=>.ok (.mk h.1 b false [],n+1)
   | .ok (some b)=>match dV b h.2 with
    | none=>.error 3
    | some xs=>match dA (vB Y d) xs (n+1)with
     | .error e=>.error e
     | .ok r=>.ok (.mk h.1 [] true r.1,r.2)
def kT(Y:mq):Nat->Nat->PT->Except Nat (aa×Nat)
 | 0,_,_=>.error 4
 | d+1,n,.mk L b many ps=>if 40<=n then .error 4 else match aS L with
  | .error _=>.error 1
  | .ok o=>if L.all dZ=true/\o.isSome=many/\(many=true->b=[])/\(many=false->ps=[]) then
    match dA (kT Y d) ps (n+1)with
    | .error e=>.error e
    | .ok r=>if many=true then .ok (Y.hw (iQ (Y.bnd r.1) L)++gK (Y.bnd r.1) r.1,r.2) else .ok (Y.hw (gI L++[(uZ,(Pp Y b).1)])++(Pp Y b).2,r.2)
   else .error 1
def Hu:List PB->List PB
 | []=>[]
 | f::L=>if ah f.1=xH then Hu L else if ah f.1=ctN then (f.1,[])::gI L else f::Hu L
def XX(many:Bool)(L:List PB):List PB:=if many then Hu L else gI L
mutual
inductive XO:PT->PT->Prop
 | mk (L L':List PB) (b:aa) (many:Bool) (ps ps':List PT):XX many L=XX many L'->GK ps ps'->XO (.mk L b many ps) (.mk L' b many ps')
inductive GK:List PT->List PT->Prop
 | nil:GK [] []
 | cons (p q:PT) (ps qs:List PT):XO p q->GK ps qs->GK (p::ps) (q::qs)
end
theorem EU{α β:Type}(f:Nat->α->Except Nat (β×Nat))(x:α)(xs:List α)(n:Nat):dA f (x::xs) n=match f n x with
  | .error e=>.error e
  | .ok q=>match dA f xs q.2 with
   | .error e=>.error e
   | .ok r=>.ok (q.1::r.1,r.2):=rfl
theorem xG{α β:Type}(f:Nat->α->Except Nat (β×Nat))(x:α)(xs:List α)(n n':Nat)(ys:List β)(h:dA f (x::xs) n=.ok (ys,n')):∃y k zs,f n x=.ok (y,k)/\dA f xs k=.ok (zs,n')/\ys=y::zs:=by
 rw[EU]at h
 cases h1:f n x with
 | error e=>rw[h1]at h;cases h
 | ok q=>
  rw[h1]at h
  simp only at h
  cases h2:dA f xs q.2 with
  | error e=>rw[h2]at h;cases h
  | ok r=>
   rw[h2]at h
   simp only[Except.ok.injEq,Prod.mk.injEq]at h
   exact⟨q.1,q.2,r.1,rfl,by rw[h2,<-h.2],h.1.symm⟩
theorem Wq{α β:Type}(f:Nat->α->Except Nat (β×Nat))(x:α)(xs:List α)(n k n':Nat)(y:β)(zs:List β)(h1:f n x=.ok (y,k))(h2:dA f xs k=.ok (zs,n')):dA f (x::xs) n=.ok (y::zs,n'):=by
 rw[EU,h1]
 simp only
 rw[h2]
theorem zX(Y:mq)(d n n':Nat)(L:List PB)(b:aa)(many:Bool)(ps:List PT)(s:aa)(h:kT Y (d+1) n (.mk L b many ps)=.ok (s,n')):
  n<40/\L.all dZ=true/\((many=true/\b=[]/\∃b0 xs,aS L=.ok (some b0)/\dA (kT Y d) ps (n+1)=.ok (xs,n')/\s=Y.hw (iQ (Y.bnd xs) L)++gK (Y.bnd xs) xs)
   \/ (many=false/\ps=[]/\aS L=.ok none/\n'=n+1/\s=Y.hw (gI L++[(uZ,(Pp Y b).1)])++(Pp Y b).2)):=by
 unfold kT at h
 by_cases hn:40<=n
 ·rw[if_pos hn]at h;cases h
 ·rw[if_neg hn]at h
  cases hm:aS L with
  | error e=>rw[hm]at h;cases h
  | ok o=>
   rw[hm]at h
   simp only at h
   by_cases hc:L.all dZ=true/\o.isSome=many/\(many=true->b=[])/\(many=false->ps=[])
   ·rw[if_pos hc]at h
    obtain⟨c1,c2,c3,c4⟩:=hc
    refine⟨by omega,c1,?_⟩
    cases ha:dA (kT Y d) ps (n+1)with
    | error e=>rw[ha]at h;cases h
    | ok r=>
     rw[ha]at h
     simp only at h
     cases many with
     | true=>
      rw[if_pos rfl]at h
      simp only[Except.ok.injEq,Prod.mk.injEq]at h
      obtain⟨b0,hb0⟩:=aac.1 c2
      exact .inl ⟨rfl,c3 rfl,b0,r.1,by rw[hb0],by rw[<-h.2],h.1.symm⟩
     | false=>
      rw[if_neg (by simp)]at h
      simp only[Except.ok.injEq,Prod.mk.injEq]at h
      have hp:=c4 rfl
      rw[hp]at ha
      have ha:Except.ok ([],n+1)=Except.ok r:=ha
      have hr:r=([],n+1):=by
       simp only[Except.ok.injEq]at ha
       exact ha.symm
      have ho:o=none:=by
       cases o with
       | none=>rfl
       | some x=>cases c2
      exact .inr ⟨rfl,hp,by rw[ho],by rw[<-h.2,hr],h.1.symm⟩
   ·rw[if_neg hc]at h;cases h
theorem NS(Y:mq)(d n n':Nat)(L:List PB)(b0:aa)(ps:List PT)(xs:List (aa))(hn:n<40)(hL:L.all dZ=true)(hm:aS L=.ok (some b0))(ha:dA (kT Y d) ps (n+1)=.ok (xs,n')):
  kT Y (d+1) n (.mk L [] true ps)=.ok (Y.hw (iQ (Y.bnd xs) L)++gK (Y.bnd xs) xs,n'):=by
 unfold kT
 rw[if_neg (by omega),hm]
 simp only
 rw[if_pos ⟨hL,rfl,fun _=>trivial,fun h=>by cases h⟩,ha]
 simp only
 rw[if_pos trivial]
theorem Qw(Y:mq)(d n:Nat)(L:List PB)(b:aa)(hn:n<40)(hL:L.all dZ=true)(hm:aS L=.ok none):
  kT Y (d+1) n (.mk L b false [])=.ok (Y.hw (gI L++[(uZ,(Pp Y b).1)])++(Pp Y b).2,n+1):=by
 unfold kT
 rw[if_neg (by omega),hm]
 simp only
 rw[if_pos ⟨hL,rfl,(fun h=>by cases h),fun _=>trivial⟩]
 rfl
theorem zP(Y:mq):∀(d n:Nat) (s:aa) (p:PT) (n':Nat),vB Y d n s=.ok (p,n')->∃t,kT Y d n p=.ok (t,n')
 | 0,n,s,p,n',h=>by cases h
 | d+1,n,s,p,n',h=>by
  unfold vB at h
  by_cases hn:40<=n
  ·rw[if_pos hn]at h;cases h
  ·rw[if_neg hn]at h
   cases hh:Y.hr s with
   | error e=>rw[hh]at h;cases h
   | ok q=>
    rw[hh]at h
    simp only at h
    have hL:=Y.good s q.1 q.2 hh
    cases hm:aS q.1 with
    | error e=>rw[hm]at h;cases h
    | ok o=>
     rw[hm]at h
     cases o with
     | none=>
      simp only at h
      cases hd:AA Y q.1 q.2 with
      | error e=>rw[hd]at h;cases h
      | ok b=>
       rw[hd]at h
       simp only[Except.ok.injEq,Prod.mk.injEq]at h
       obtain⟨rfl,rfl⟩:=h
       exact⟨_,Qw Y d n q.1 b (by omega) hL hm⟩
     | some b=>
      simp only at h
      cases hb:dV b q.2 with
      | none=>rw[hb]at h;cases h
      | some xs=>
       rw[hb]at h
       simp only at h
       cases ha:dA (vB Y d) xs (n+1)with
       | error e=>rw[ha]at h;cases h
       | ok r=>
        rw[ha]at h
        simp only[Except.ok.injEq,Prod.mk.injEq]at h
        obtain⟨rfl,rfl⟩:=h
        have hall:∀(xs:List (aa)) (rs:List PT) (n n':Nat),dA (vB Y d) xs n=.ok (rs,n')->∃ts,dA (kT Y d) rs n=.ok (ts,n'):=by
         intro xs
         induction xs with
         | nil=>
          intro rs n n' h
          have h:Except.ok ([],n)=Except.ok (rs,n'):=h
          simp only[Except.ok.injEq,Prod.mk.injEq]at h
          obtain⟨rfl,rfl⟩:=h
          exact⟨[],rfl⟩
         | cons x xs ih=>
          intro rs n n' h
          obtain⟨y,k,zs,h1,h2,rfl⟩:=xG _ _ _ _ _ _ h
          obtain⟨t,ht⟩:=zP Y d n x y k h1
          obtain⟨ts,hts⟩:=ih zs k n' h2
          exact⟨t::ts,Wq _ _ _ _ _ _ _ _ ht hts⟩
        obtain⟨ts,hts⟩:=hall xs r.1 (n+1) r.2 ha
        exact⟨_,NS Y d n r.2 q.1 b r.1 ts (by omega) hL hm hts⟩
def l8(ps:List PB):Nat:=(ps.map fun p=>p.1.length+p.2.length+2).sum
theorem fU(p:PB)(ps:List PB):l8 (p::ps)=p.1.length+p.2.length+2+l8 ps:=by simp[l8]
theorem uu:∀(r:aa) (q:aa×aa),bf r=some q->q.1.length+q.2.length+1<=r.length
 | [],q,h=>by cases h
 | [c],q,h=>by
  unfold bf at h
  split at h
  ·cases h;simp
  ·split at h
   ·cases h
   ·split at h
    ·simp[bf]at h
    ·cases h
 | c::d::r,q,h=>by
  unfold bf at h
  split at h
  ·cases h;simp
  ·split at h
   ·simp only at h
    split at h
    ·simp only[aaa]at h
     obtain⟨a,ha,rfl⟩:=h
     have:=uu r a ha
     simp;omega
    ·cases h
   ·split at h
    ·simp only[aaa]at h
     obtain⟨a,ha,rfl⟩:=h
     have:=uu (d::r) a ha
     simp at this ⊢;omega
    ·cases h
theorem qM(p:UInt8->Bool)(l:aa):(l.takeWhile p).length+(l.dropWhile p).length=l.length:=by
 conv=>rhs;rw[<-Z6 (p:=p) (l:=l),ZY]
theorem Mt(nm r:aa)(q:PB×aa)(h:qY nm r=some q):q.1.1.length=nm.length/\q.1.2.length+q.2.length<=r.length:=by
 unfold qY at h
 split at h
 ·simp only[aaa]at h
  obtain⟨a,ha,rfl⟩:=h
  have h1:=uu _ a ha
  have h2:=dB a.2
  rw[Z0]at h1
  refine⟨by simp[ah],?_⟩
  simp only
  omega
 ·split at h
  ·cases h
  ·cases h
   have h1:=qM dK r
   have h2:=dB (r.dropWhile dK)
   refine⟨by simp[ah],?_⟩
   simp only
   omega
theorem Ux(r:aa)(q:PB×aa)(h:xM r=some q):q.1.1.length+q.1.2.length+1+q.2.length<=r.length:=by
 unfold xM at h
 split at h
 ·cases h
 ·split at h
  ·rename_i hh
   obtain⟨h1,h2⟩:=Mt _ _ q h
   have a1:=dB r
   have a2:=qM dK (aW r)
   have a3:=dB ((aW r).dropWhile dK)
   have a4:=dB ((aW ((aW r).dropWhile dK)).drop 1)
   have a5:1<=(aW ((aW r).dropWhile dK)).length:=by
    cases hd:aW ((aW r).dropWhile dK)with
    | nil=>rw[hd]at hh;cases hh
    | cons _ _=>simp
   rw[Z0]at a4
   omega
  ·cases h
theorem zz:∀(n:Nat) (l:aa) (ps:List PB),bS n l=some ps->l8 ps<=l.length
 | 0,l,ps,h=>by
  unfold bS at h
  split at h
  ·cases h;simp[l8]
  ·cases h
 | n+1,l,ps,h=>by
  unfold bS at h
  split at h
  ·cases h;simp[l8]
  ·split at h
   ·rename_i h0 _
    simp only[aab,aaa]at h
    obtain⟨q,hq,k,hk,rfl⟩:=h
    have h1:=Ux _ q hq
    have h2:=zz n q.2 k hk
    have h3:=List.length_pos_iff.2 h0
    rw[Z0]at h1
    rw[fU]
    omega
   ·cases h
theorem wW(s:aa)(q:aa×List PB)(h:eO s=some q):q.1.length+l8 q.2<=s.length:=by
 unfold eO at h
 split at h
 ·simp only[aaa]at h
  obtain⟨k,hk,rfl⟩:=h
  have h1:=zz _ _ _ hk
  have h2:=qM (· != 59) s
  have h3:=Nat.le_trans (yS (aW (s.takeWhile (· != 59)))) (dB (s.takeWhile (· != 59)))
  have h4:(ah (trimS (s.takeWhile (· != 59)))).length=(trimS (s.takeWhile (· != 59))).length:=by simp[ah]
  have h5:(trimS (s.takeWhile (· != 59))).length<=(s.takeWhile (· != 59)).length:=h3
  simp only
  omega
 ·cases h
theorem Uq(v:aa):(v.flatMap vR).length<=2*v.length:=by
 induction v with
 | nil=>simp
 | cons c v ih=>
  rw[ZZ,ZY,ZX]
  have:(vR c).length<=2:=by unfold vR;split<;>simp
  omega
theorem Iu(p:PB):(jE p).length<=3*(p.1.length+p.2.length+2):=by
 unfold jE wS
 have h:=Uq p.2
 split
 ·simp;omega
 ·simp at h ⊢;omega
theorem Ae(m:aa)(ps:List PB):(eQ m ps).length<=m.length+3*l8 ps:=by
 unfold eQ
 rw[ZY]
 have:(ps.flatMap jE).length<=3*l8 ps:=by
  induction ps with
  | nil=>simp[l8]
  | cons p ps ih=>
   rw[ZZ,ZY,fU]
   have:=Iu p
   omega
 omega
theorem RD(bd:aa)(ps:List PB):l8 (setP bd ps)<=l8 ps+bd.length:=by
 induction ps with
 | nil=>simp[setP,l8]
 | cons p ps ih=>
  unfold setP
  split
  ·rw[fU,fU];simp only;omega
  ·rw[fU,fU];omega
theorem zk(bd v:aa):(pu bd v).length<=3*(v.length+bd.length):=by
 unfold pu
 cases h:eO v with
 | none=>simp
 | some q=>
  simp only
  have h1:=wW v q h
  have h2:=Ae q.1 (setP bd q.2)
  have h3:=RD bd q.2
  omega
theorem Rn(bd:aa)(L:List PB)(a b:Nat)(h:∀f∈L,f.1.length<=a/\f.2.length<=b):(iQ bd L).length<=L.length/\∀f∈iQ bd L,f.1.length<=a/\f.2.length<=3*(b+bd.length):=by
 induction L with
 | nil=>exact⟨Nat.le_refl _,fun f hf=>absurd hf (by simp[iQ])⟩
 | cons g L ih=>
  have hg:=h g (by simp)
  obtain⟨i1,i2⟩:=ih fun f hf=>h f (by simp[hf])
  rw[qV]
  split
  ·exact⟨by simp;omega,i2⟩
  ·split
   ·refine⟨?_,?_⟩
    ·rw[ZX,ZX]
     have:(gI L).length<=L.length:=List.length_filter_le _ _
     omega
    ·intro f hf
     rcases ZV.1 hf with rfl|hf
     ·have:=zk bd g.2
      exact⟨hg.1,by simp only;omega⟩
     ·have:=h f (by simp[(Z9.1 hf).1])
      omega
   ·refine⟨by simp;omega,?_⟩
    intro f hf
    rcases ZV.1 hf with rfl|hf
    ·omega
    ·exact i2 f hf
end Go.Proofs.YtkldkhdigkpniaaGreatDoor
