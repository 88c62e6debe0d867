import Derived.Test.YtkldkhdigkpniaaGreatDoorZ7
import Derived.Lib.IndexMore
open List renaming cons_append → GL, isPrefixOf_iff_prefix → VQ, drop_succ_cons → Ws, drop_zero → Xu, nil_append → ZV, takeWhile_append_dropWhile → ZW, head?_append → ZX, takeWhile_cons → ZY, length_append → ZZ, head_dropWhile_not → Z0, head_cons → Z4, append_assoc → Z5, take_append_drop → Z6, length_cons → Z7, mem_cons → Z8
open Option renaming map_eq_some_iff → Z9, map_some → aaa, map_map → aab, map_eq_none_iff → aac
namespace Go.Proofs.YtkldkhdigkpniaaGreatDoor
open Go.RowKit Go.Proofs.Tryz
def qz:List (aa×UInt8):=[([38,97,109,112,59],38),([38,113,117,111,116,59],34),([38,35,51,57,59],39),([38,108,116,59],60),([38,103,116,59],62)]
def fJ:Nat->aa->aa
 | 0,_=>[]
 | n+1,s=>match s with
  | []=>[]
  | c::r=>match qz.find? fun w=>w.1.isPrefixOf (ah (c::r))with
   | some w=>w.2::fJ n ((c::r).drop w.1.length)
   | none=>c::fJ n r
def dH(s:aa):aa:=fJ s.length s
def sN(c:UInt8):aa:=if c=38 then [38,97,109,112,59] else if c=34 then [38,113,117,111,116,59] else if c=39 then [38,35,51,57,59] else if c=60 then [38,108,116,59] else if c=62 then [38,103,116,59] else [c]
def eY(s:aa):aa:=s.flatMap sN
theorem NK(c d:UInt8)(h:d∈sN c):d≠34/\d≠39/\d≠60/\d≠62:=by
 have key:∀n:Fin 256,∀d∈sN (UInt8.ofNat n.val),d≠34/\d≠39/\d≠60/\d≠62:=by decide +kernel
 have:=key ⟨c.toNat,c.toNat_lt⟩
 have e:UInt8.ofNat c.toNat=c:=by simp
 simp only[e]at this
 exact this d h
theorem Cx(s:aa):∀d∈eY s,d≠34/\d≠39/\d≠60/\d≠62:=by
 intro d hd
 obtain⟨c,_,hc⟩:=List.mem_flatMap.1 hd
 exact NK c d hc
abbrev Md:=Option (Bool×aa)
def dG(c:UInt8):Bool:=c==32||c==9||c==13||c==10
def Ce(c:UInt8):Bool:=decide (97<=(aQ c).toNat)&&decide ((aQ c).toNat<=122)
def cB(c:UInt8):Bool:=Ce c||(decide (48<=c.toNat)&&decide (c.toNat<=57))
def aU(c:UInt8):Bool:=!dG c&&c != 47&&c != 61&&c != 62
def eH(c:UInt8):Bool:=!dG c&&c != 62
def dw(c:UInt8):Bool:=dG c||c==47
def bu(sub:aa):aa->Option (aa×aa)
 | []=>none
 | c::s=>if sub.isPrefixOf (c::s) then some ([],c::s) else (bu sub s).map fun q=>(c::q.1,q.2)
def iI(sub:aa):aa->Option (aa×aa)
 | []=>none
 | c::s=>if sub.isPrefixOf (ah (c::s)) then some ([],c::s) else (iI sub s).map fun q=>(c::q.1,q.2)
theorem rD(sub x r r':aa)(h:sub.length<=x.length):sub.isPrefixOf (x++r)=sub.isPrefixOf (x++r'):=by
 induction sub generalizing x with
 | nil=>simp
 | cons c sub ih=>
  cases x with
  | nil=>simp at h
  | cons d x=>simp only[GL,List.isPrefixOf];rw[ih x (by simpa using h)]
theorem gG(sub s a b:aa)(h:bu sub s=some (a,b)):s=a++b/\sub.isPrefixOf b=true:=by
 induction s generalizing a with
 | nil=>cases h
 | cons c s ih=>
  unfold bu at h
  split at h
  ·rename_i hp
   simp only[Option.some.injEq,Prod.mk.injEq]at h
   obtain⟨rfl,rfl⟩:=h
   exact⟨rfl,hp⟩
  ·obtain⟨q,hq1,hq2⟩:=Z9.1 h
   simp only[Prod.mk.injEq]at hq2
   obtain⟨rfl,rfl⟩:=hq2
   obtain⟨i1,i2⟩:=ih q.1 hq1
   exact⟨by rw[GL,<-i1],i2⟩
theorem tH(sub:aa)(h0:sub≠[])(r r':aa):∀a:aa,bu sub (a++(sub++r))=some (a,sub++r)->bu sub (a++(sub++r'))=some (a,sub++r')
 | [],_=>by
  cases hs:sub with
  | nil=>exact absurd hs h0
  | cons c t=>
   show bu (c::t) (c::(t++r'))=_
   unfold bu
   have:(c::t).isPrefixOf (c::(t++r'))=true:=VQ.2 ⟨r',rfl⟩
   rw[if_pos this];rfl
 | c::a,h=>by
  have e:∀z:aa,c::a++(sub++z)=(c::a++sub)++z:=fun z=>by simp
  have hloc:=rD sub (c::a++sub) r r' (by simp;omega)
  rw[<-e,<-e]at hloc
  show bu sub (c::(a++(sub++r')))=_
  have h':bu sub (c::(a++(sub++r)))=some (c::a,sub++r):=h
  unfold bu at h' ⊢
  have hl2:sub.isPrefixOf (c::(a++(sub++r)))=sub.isPrefixOf (c::(a++(sub++r'))):=hloc
  rw[<-hl2]
  split at h'
  ·simp at h'
  ·rename_i hn
   rw[if_neg hn]
   obtain⟨q,hq1,hq2⟩:=Z9.1 h'
   simp only[Prod.mk.injEq,List.cons.injEq,true_and]at hq2
   obtain⟨rfl,hq3⟩:=hq2
   have hq4:bu sub (q.1++(sub++r))=some (q.1,sub++r):=by rw[hq1,<-hq3]
   rw[tH sub h0 r r' q.1 hq4];rfl
theorem mP(d:UInt8)(s a b:aa)(h:bu [d] s=some (a,b)):∃r,b=d::r:=by
 have:=(gG [d] s a b h).2
 cases b with
 | nil=>simp at this
 | cons c r=>
  have:d=c:=by simpa[List.isPrefixOf]using this
  exact⟨r,by rw[this]⟩
theorem ni(d:UInt8)(a r r':aa)(h:bu [d] (a++d::r)=some (a,d::r)):bu [d] (a++d::r')=some (a,d::r'):=tH [d] (by simp) r r' a h
theorem F5(sub s a b:aa)(h:bu sub s=some (a,b)):∃r,b=sub++r:=by
 have:=(gG sub s a b h).2
 obtain⟨t,ht⟩:=VQ.1 this
 exact⟨t,ht.symm⟩
def eu:List (aa):=[[115,99,114,105,112,116],[115,116,121,108,101],[116,101,120,116,97,114,101,97],[116,105,116,108,101]]
def bZ:List (aa):=[[115,114,99],[104,114,101,102],[98,97,99,107,103,114,111,117,110,100]]
abbrev Out:=aa×Option (aa×Bool)×Md×aa
def aR(s:aa):Option Out:=
 match bu [60] s with
 | none=>none
 | some (u,r0)=>
  match r0.drop 1 with
  | []=>none
  | c::r=>
   if [33,45,45].isPrefixOf (c::r) then (bu [45,45,62] ((c::r).drop 3)).map fun q=>(u++[60,33,45,45]++q.1++[45,45,62],none,none,q.2.drop 3)
   else if c=47\/c=33\/c=63 then (bu [62] (c::r)).map fun q=>(u++[60]++q.1++[62],none,none,q.2.drop 1)
   else if Ce c then some (u++[60]++(c::r).takeWhile cB,none,some (false,ah ((c::r).takeWhile cB)),(c::r).dropWhile cB)
   else some (u++[60],none,none,c::r)
def dF(n s:aa):Option Out:=(iI (60::47::n) s).map fun q=>(q.1,none,none,q.2)
def gy(n nm pre t:aa):Option Out:=
 match t with
 | []=>none
 | q::t'=>
  if q=34\/q=39 then (bu [q] t').map fun f=>if bZ.contains nm then (pre++[q],some (f.1,true),some (false,n),f.2.drop 1) else (pre++[q]++f.1++[q],none,some (false,n),f.2.drop 1)
  else if (t.dropWhile eH)=[] then none
  else if bZ.contains nm then some (pre,some (t.takeWhile eH,false),some (false,n),t.dropWhile eH)
  else some (pre++t.takeWhile eH,none,some (false,n),t.dropWhile eH)
def bi(n s:aa):Option Out:=
 match s.dropWhile dw with
 | []=>none
 | c::t=>
  if c=62 then some (s.takeWhile dw++[62],none,if eu.contains n then some (true,n) else none,t)
  else if t.dropWhile aU=[] then none
  else if ((t.dropWhile aU).dropWhile dG).head?=some 61 then
   gy n (ah (c::t.takeWhile aU)) (s.takeWhile dw++c::t.takeWhile aU++(t.dropWhile aU).takeWhile dG++[61]++(((t.dropWhile aU).dropWhile dG).drop 1).takeWhile dG) ((((t.dropWhile aU).dropWhile dG).drop 1).dropWhile dG)
  else some (s.takeWhile dw++c::t.takeWhile aU++(t.dropWhile aU).takeWhile dG,none,some (false,n),(t.dropWhile aU).dropWhile dG)
def Ip(m:Md)(s:aa):Option Out:=match m with|none=>aR s|some (true,n)=>dF n s|some (false,n)=>bi n s
def Yb(m:Md)(r r':aa):Prop:=r'.head?=r.head?/\(m=none->∀t,r=60::47::t->r'.takeWhile (· != 62)=r.takeWhile (· != 62))
theorem qh(s c r r':aa)(e:Option (aa×Bool))(m:Md)(h:aR s=some (c,e,m,r))(ha:r'.head?=r.head?):e=none/\s=c++r/\c≠[]/\aR (c++r')=some (c,none,m,r'):=by
 unfold aR at h
 cases hf:bu [60] s with
 | none=>rw[hf]at h;cases h
 | some ur=>
  obtain⟨u,r0⟩:=ur
  obtain⟨r1,rfl⟩:=mP 60 s u r0 hf
  have hs:=(gG _ _ _ _ hf).1
  have hf':∀z,bu [60] (u++60::z)=some (u,60::z):=fun z=>ni 60 u r1 z (by rw[<-hs];exact hf)
  rw[hf]at h
  simp only[Ws,Xu]at h
  cases r1 with
  | nil=>cases h
  | cons d t=>
   simp only at h
   split at h
   ·rename_i hp
    obtain⟨q,hq,heq⟩:=Z9.1 h
    simp only[Prod.mk.injEq]at heq
    obtain⟨rfl,rfl,rfl,rfl⟩:=heq
    obtain⟨p3,hp3⟩:=VQ.1 hp
    simp only[GL,ZV,List.cons.injEq]at hp3
    obtain⟨rfl,rfl⟩:=hp3
    have hq:bu [45,45,62] p3=some (q.1,q.2):=hq
    obtain⟨x,hx⟩:=F5 _ _ q.1 q.2 hq
    have hq':=(gG _ _ q.1 q.2 hq).1
    rw[hx]at hq hq' ⊢
    have hxd:([45,45,62]++x).drop 3=x:=rfl
    rw[hxd]
    rw[hq']at hq
    refine⟨rfl,?_,by simp,?_⟩
    ·rw[hs,hq'];simp
    ·have hl:=tH [45,45,62] (by simp) x r' q.1 hq
     have e1:u++[60,33,45,45]++q.1++[45,45,62]++r'=u++60::(33::45::45::(q.1++([45,45,62]++r'))):=by simp
     unfold aR
     rw[e1,hf']
     simp only[Ws,Xu]
     have hpp:[33,45,45].isPrefixOf (33::45::45::(q.1++([45,45,62]++r')))=true:=VQ.2 ⟨_,rfl⟩
     rw[if_pos hpp,hl]
     rfl
   ·rename_i hp
    split at h
    ·rename_i hc
     obtain⟨q,hq,heq⟩:=Z9.1 h
     simp only[Prod.mk.injEq]at heq
     obtain⟨rfl,rfl,rfl,rfl⟩:=heq
     have hq:bu [62] (d::t)=some (q.1,q.2):=hq
     obtain⟨x,hx⟩:=mP 62 _ q.1 q.2 hq
     have hq':=(gG _ _ q.1 q.2 hq).1
     rw[hx]at hq hq' ⊢
     have hne:q.1≠[]:=by
      intro e0
      rw[e0]at hq'
      simp only[ZV,List.cons.injEq]at hq'
      rcases hc with hc|hc|hc<;>rw[hc]at hq'<;>exact absurd hq'.1 (by decide)
     obtain⟨d',q1,hq1⟩:∃d' q1,q.1=d'::q1:=by
      cases hh:q.1 with
      | nil=>exact absurd hh hne
      | cons a b=>exact⟨a,b,rfl⟩
     have hd:d'=d:=by
      rw[hq1]at hq'
      simp only[GL,List.cons.injEq]at hq'
      exact hq'.1.symm
     subst hd
     rw[hq']at hq
     refine⟨rfl,?_,by simp,?_⟩
     ·rw[hs,hq'];simp
     ·have hl:=ni 62 q.1 x r' hq
      have e1:u++[60]++q.1++[62]++r'=u++60::(d'::(q1++62::r')):=by rw[hq1];simp
      have e2:q.1++62::r'=d'::(q1++62::r'):=by rw[hq1];rfl
      unfold aR
      rw[e1,hf']
      simp only[Ws,Xu]
      rw[if_neg,if_pos hc,<-e2,hl]
      ·rfl
      ·intro hpp
       apply hp
       have ht:d'::t=(d'::q1)++62::x:=by rw[hq',hq1]
       rw[ht]
       obtain⟨z,hz⟩:=VQ.1 hpp
       -- the first three qz lie ahead of the >
       cases q1 with
       | nil=>
        simp only[ZV,GL,List.cons.injEq]at hz
        exact absurd hz.2.1 (by decide)
       | cons a q1=>
        cases q1 with
        | nil=>
         simp only[ZV,GL,List.cons.injEq]at hz
         exact absurd hz.2.2.1 (by decide)
        | cons b q1=>
         simp only[GL,ZV,List.cons.injEq]at hz
         obtain⟨rfl,rfl,rfl,_⟩:=hz
         exact VQ.2 ⟨q1++62::x,rfl⟩
    ·rename_i hc
     split at h
     ·rename_i hal
      simp only[Option.some.injEq,Prod.mk.injEq]at h
      obtain⟨rfl,rfl,rfl,rfl⟩:=h
      have hd:cB d=true:=by unfold cB;rw[hal];rfl
      have hsp:=ZW (p:=cB) (l:=d::t)
      have hnm:(d::t).takeWhile cB=d::t.takeWhile cB:=by rw[ZY,hd];rfl
      have hhead:((d::t).dropWhile cB).head?.all (fun c=>!cB c)=true:=by
       cases hw:(d::t).dropWhile cB with
       | nil=>rfl
       | cons a b=>
        have:=Z0 cB (l:=d::t) (by rw[hw];simp)
        simp only[hw,Z4]at this
        simp[this]
      refine⟨rfl,?_,by simp,?_⟩
      ·rw[hs];simp only[Z5,GL,ZV];rw[hsp]
      ·obtain⟨i1,i2⟩:=bI (p:=cB) ((d::t).takeWhile cB) r' (bg _) (by rw[ha];exact hhead)
       have e1:u++[60]++(d::t).takeWhile cB++r'=u++60::((d::t).takeWhile cB++r'):=by simp
       unfold aR
       rw[e1,hf']
       simp only[Ws,Xu]
       have e2:(d::t).takeWhile cB++r'=d::(t.takeWhile cB++r'):=by rw[hnm];rfl
       rw[e2]
       simp only
       rw[<-e2,if_neg,if_neg hc,if_pos hal,i1,i2]
       rw[e2]
       intro hpp
       obtain⟨z,hz⟩:=VQ.1 hpp
       simp only[GL,ZV,List.cons.injEq]at hz
       exact hc (.inr (.inl hz.1.symm))
     ·rename_i hal
      simp only[Option.some.injEq,Prod.mk.injEq]at h
      obtain⟨rfl,rfl,rfl,rfl⟩:=h
      refine⟨rfl,by rw[hs];simp,by simp,?_⟩
      cases r' with
      | nil=>simp at ha
      | cons d2 t2=>
       have hd2:d2=d:=by simpa using ha
       subst hd2
       have e1:u++[60]++d2::t2=u++60::(d2::t2):=by simp
       unfold aR
       rw[e1,hf']
       simp only[Ws,Xu]
       rw[if_neg,if_neg hc,if_neg hal]
       intro hpp
       obtain⟨z,hz⟩:=VQ.1 hpp
       simp only[GL,ZV,List.cons.injEq]at hz
       exact hc (.inr (.inl hz.1.symm))
theorem fe{p:UInt8->Bool}(l:aa):(l.dropWhile p).head?.all (fun c=>!p c)=true:=by
 cases hw:l.dropWhile p with
 | nil=>rfl
 | cons a b=>
  have:=Z0 p (l:=l) (by rw[hw];simp)
  simp only[hw,Z4]at this
  simp[this]
theorem Ue(c:UInt8)(h:dG c=true):aU c=false:=by unfold aU;rw[h];rfl
theorem QX(g z:aa)(hg:∀c∈g,dG c=true)(hz:g=[]->z.head?.all (fun c=>!aU c)=true):(g++z).head?.all (fun c=>!aU c)=true:=by
 cases g with
 | nil=>exact hz rfl
 | cons c g=>simp[Ue c (hg c (by simp))]
theorem qC(n a t:aa)(ha:∀c∈a,dw c=true):bi n (a++62::t)=some (a++[62],none,if eu.contains n then some (true,n) else none,t):=by
 obtain⟨i1,i2⟩:=bI (p:=dw) a (62::t) ha (by simp;decide)
 unfold bi
 rw[i2,i1]
 simp
theorem xy(n a b g z:aa)(c:UInt8)(ha:∀c∈a,dw c=true)(hc:dw c=false)(hc2:c≠62)(hb:∀c∈b,aU c=true)(hg:∀c∈g,dG c=true)
  (h1:(g++z).head?.all (fun c=>!aU c)=true) (h2:g++z≠[]) (h3:z.head?.all (fun c=>!dG c)=true) (h4:z.head?≠some 61):bi n (a++c::(b++(g++z)))=some (a++c::b++g,none,some (false,n),z):=by
 obtain⟨i1,i2⟩:=bI (p:=dw) a (c::(b++(g++z))) ha (by simp[hc])
 obtain⟨j1,j2⟩:=bI (p:=aU) b (g++z) hb h1
 obtain⟨k1,k2⟩:=bI (p:=dG) g z hg h3
 unfold bi
 rw[i2,i1]
 simp only
 rw[if_neg hc2,j2,j1,if_neg h2,k2,k1,if_neg h4]
theorem uR(n a b g h w:aa)(c:UInt8)(ha:∀c∈a,dw c=true)(hc:dw c=false)(hc2:c≠62)(hb:∀c∈b,aU c=true)(hg:∀c∈g,dG c=true)(hh:∀c∈h,dG c=true)
  (hw:w.head?.all (fun c=>!dG c)=true):bi n (a++c::(b++(g++61::(h++w))))=gy n (ah (c::b)) (a++c::b++g++[61]++h) w:=by
 obtain⟨i1,i2⟩:=bI (p:=dw) a (c::(b++(g++61::(h++w)))) ha (by simp[hc])
 obtain⟨j1,j2⟩:=bI (p:=aU) b (g++61::(h++w)) hb (QX g _ hg fun _=>by simp;decide)
 obtain⟨k1,k2⟩:=bI (p:=dG) g (61::(h++w)) hg (by simp;decide)
 obtain⟨l1,l2⟩:=bI (p:=dG) h w hh hw
 unfold bi
 rw[i2,i1]
 simp only
 rw[if_neg hc2,j2,j1,if_neg (by simp),k2,k1,if_pos (show(61::(h++w)).head?=some 61 from rfl)]
 simp only[Ws,Xu]
 rw[l1,l2]
theorem zh(n s:aa)(o:Out)(h:bi n s=some o):
  (∃a t,s=a++62::t/\(∀c∈a,dw c=true))
  \/ (∃a b g z,∃c:UInt8,s=a++c::(b++(g++z))/\(∀c∈a,dw c=true)/\dw c=false/\c≠62/\(∀c∈b,aU c=true)/\(∀c∈g,dG c=true)/\(g++z).head?.all (fun c=>!aU c)=true/\g++z≠[]/\z.head?.all (fun c=>!dG c)=true/\z.head?≠some 61)
  \/ (∃a b g h w,∃c:UInt8,s=a++c::(b++(g++61::(h++w)))/\(∀c∈a,dw c=true)/\dw c=false/\c≠62/\(∀c∈b,aU c=true)/\(∀c∈g,dG c=true)/\(∀c∈h,dG c=true)/\w.head?.all (fun c=>!dG c)=true):=by
 have hs:=ZW (p:=dw) (l:=s)
 have hd:=fe (p:=dw) s
 unfold bi at h
 cases hx:s.dropWhile dw with
 | nil=>rw[hx]at h;cases h
 | cons c t=>
  rw[hx]at h hs hd
  simp only at h
  have hc:dw c=false:=by simpa using hd
  by_cases h62:c=62
  ·subst h62
   exact .inl ⟨_,t,hs.symm,bg _⟩
  ·rw[if_neg h62]at h
   have ht:=ZW (p:=aU) (l:=t)
   have htd:=fe (p:=aU) t
   have hz:=ZW (p:=dG) (l:=t.dropWhile aU)
   have hzd:=fe (p:=dG) (t.dropWhile aU)
   by_cases he:t.dropWhile aU=[]
   ·rw[if_pos he]at h;cases h
   ·by_cases hq:((t.dropWhile aU).dropWhile dG).head?=some 61
    ·obtain⟨v,hv⟩:∃v,(t.dropWhile aU).dropWhile dG=61::v:=by
      cases hy:(t.dropWhile aU).dropWhile dG with
      | nil=>rw[hy]at hq;cases hq
      | cons x v=>rw[hy]at hq;simp at hq;exact⟨v,by rw[hq]⟩
     rw[hv]at hz
     refine .inr (.inr ⟨s.takeWhile dw,t.takeWhile aU,(t.dropWhile aU).takeWhile dG,v.takeWhile dG,v.dropWhile dG,c,?_,bg _,hc,h62,bg _,bg _,bg _,fe _⟩)
     rw[ZW,hz,ht,hs]
    ·refine .inr (.inl ⟨s.takeWhile dw,t.takeWhile aU,(t.dropWhile aU).takeWhile dG,(t.dropWhile aU).dropWhile dG,c,?_,bg _,hc,h62,bg _,bg _,?_,?_,hzd,hq⟩)
     ·rw[hz,ht,hs]
     ·rw[hz];exact htd
     ·rw[hz];exact he
theorem Tp(n nm pre w c r r':aa)(m:Md)(h:gy n nm pre w=some (c,none,m,r))(ha:r'.head?=r.head?):
  ∃x,c=pre++x/\w=x++r/\gy n nm pre (x++r')=some (c,none,m,r'):=by
 unfold gy at h
 cases w with
 | nil=>cases h
 | cons q t=>
  simp only at h
  by_cases hq:q=34\/q=39
  ·rw[if_pos hq]at h
   obtain⟨f,hf,he⟩:=Z9.1 h
   have hf:bu [q] t=some (f.1,f.2):=hf
   by_cases hl:bZ.contains nm=true
   ·rw[if_pos hl]at he;simp at he
   ·rw[if_neg hl]at he
    simp only[Prod.mk.injEq]at he
    obtain⟨rfl,_,rfl,rfl⟩:=he
    obtain⟨z,hz⟩:=mP q t f.1 f.2 hf
    have ht:=(gG _ _ _ _ hf).1
    rw[hz]at ht hf ⊢
    rw[ht]at hf
    refine⟨[q]++f.1++[q],by simp,by rw[ht];simp,?_⟩
    have e:[q]++f.1++[q]++r'=q::(f.1++q::r'):=by simp
    rw[e]
    unfold gy
    simp only
    rw[if_pos hq,ni q f.1 z r' hf]
    simp only[aaa,Ws,Xu]
    rw[if_neg hl]
  ·rw[if_neg hq]at h
   by_cases he:(q::t).dropWhile eH=[]
   ·rw[if_pos he]at h;cases h
   ·rw[if_neg he]at h
    by_cases hl:bZ.contains nm=true
    ·rw[if_pos hl]at h;simp at h
    ·rw[if_neg hl]at h
     simp only[Option.some.injEq,Prod.mk.injEq]at h
     obtain⟨rfl,_,rfl,rfl⟩:=h
     have hs:=ZW (p:=eH) (l:=q::t)
     refine⟨(q::t).takeWhile eH,rfl,hs.symm,?_⟩
     obtain⟨i1,i2⟩:=bI (p:=eH) ((q::t).takeWhile eH) r' (bg _) (by rw[ha];exact fe _)
     have hne:r'≠[]:=by
      intro e;rw[e]at ha
      cases hx:(q::t).dropWhile eH with
      | nil=>exact he hx
      | cons a b=>rw[hx]at ha;cases ha
     have hhd:((q::t).takeWhile eH++r').head?=some q:=by
      have h1:((q::t).takeWhile eH++r').head?=((q::t).takeWhile eH++(q::t).dropWhile eH).head?:=by
       rw[ZX,ZX,ha]
      rw[h1,hs];rfl
     obtain⟨y,hy⟩:∃y,(q::t).takeWhile eH++r'=q::y:=by
      cases hx:(q::t).takeWhile eH++r' with
      | nil=>rw[hx]at hhd;cases hhd
      | cons a b=>rw[hx]at hhd;simp at hhd;exact⟨b,by rw[hhd]⟩
     rw[hy]
     unfold gy
     simp only
     rw[if_neg hq,<-hy,i2,i1,if_neg hne,if_neg hl]
theorem Jb(n nm pre w c r v:aa)(k:Bool)(m:Md)(h:gy n nm pre w=some (c,some (v,k),m,r)):
  bZ.contains nm=true/\m=some (false,n)/\((k=true/\∃q:UInt8,(q=34\/q=39)/\c=pre++[q]/\w=q::(v++q::r))\/(k=false/\c=pre/\w=v++r)):=by
 unfold gy at h
 cases w with
 | nil=>cases h
 | cons q t=>
  simp only at h
  by_cases hq:q=34\/q=39
  ·rw[if_pos hq]at h
   obtain⟨f,hf,he⟩:=Z9.1 h
   have hf:bu [q] t=some (f.1,f.2):=hf
   by_cases hl:bZ.contains nm=true
   ·rw[if_pos hl]at he
    simp only[Prod.mk.injEq,Option.some.injEq]at he
    obtain⟨rfl,⟨rfl,rfl⟩,rfl,rfl⟩:=he
    obtain⟨z,hz⟩:=mP q t f.1 f.2 hf
    have ht:=(gG _ _ _ _ hf).1
    rw[hz]at ht ⊢
    exact⟨hl,rfl,.inl ⟨rfl,q,hq,rfl,by rw[ht];rfl⟩⟩
   ·rw[if_neg hl]at he;simp at he
  ·rw[if_neg hq]at h
   by_cases he:(q::t).dropWhile eH=[]
   ·rw[if_pos he]at h;cases h
   ·rw[if_neg he]at h
    by_cases hl:bZ.contains nm=true
    ·rw[if_pos hl]at h
     simp only[Option.some.injEq,Prod.mk.injEq]at h
     obtain⟨rfl,⟨rfl,rfl⟩,rfl,rfl⟩:=h
     exact⟨hl,rfl,.inr ⟨rfl,rfl,(ZW (p:=eH) (l:=q::t)).symm⟩⟩
    ·rw[if_neg hl]at h;simp at h
theorem IG(q:UInt8)(x r:aa)(hx:q∉x):bu [q] (x++q::r)=some (x,q::r):=by
 induction x with
 | nil=>show bu [q] (q::r)=_;unfold bu;simp
 | cons c x ih=>
  have hc:(q==c)=false:=by
   rw[beq_eq_false_iff_ne];intro e;exact hx (by simp[e])
  show bu [q] (c::(x++q::r))=_
  unfold bu
  simp only[List.isPrefixOf,hc,Bool.false_and]
  rw[ih (fun h=>hx (by simp[h]))]
  rfl
theorem O3(n nm pre x r:aa)(q:UInt8)(hq:q=34\/q=39)(hl:bZ.contains nm=true)(hx:q∉x):gy n nm pre (q::(x++q::r))=some (pre++[q],some (x,true),some (false,n),r):=by
 unfold gy
 simp only
 rw[if_pos hq,IG q x r hx]
 simp only[aaa,Ws,Xu]
 rw[if_pos hl]
theorem tJ(n s c r r':aa)(m:Md)(h:bi n s=some (c,none,m,r))(ha:r'.head?=r.head?):s=c++r/\c≠[]/\bi n (c++r')=some (c,none,m,r'):=by
 rcases zh n s _ h with⟨a,t,rfl,h1⟩|⟨a,b,g,z,d,rfl,h1,h2,h3,h4,h5,h6,h7,h8,h9⟩|⟨a,b,g,k,w,d,rfl,h1,h2,h3,h4,h5,h6,h7⟩
 ·rw[qC n a t h1]at h
  simp only[Option.some.injEq,Prod.mk.injEq,true_and]at h
  obtain⟨rfl,rfl,rfl⟩:=h
  refine⟨by simp,by simp,?_⟩
  have e:a++[62]++r'=a++62::r':=by simp
  rw[e];exact qC n a r' h1
 ·rw[xy n a b g z d h1 h2 h3 h4 h5 h6 h7 h8 h9]at h
  simp only[Option.some.injEq,Prod.mk.injEq,true_and]at h
  obtain⟨rfl,rfl,rfl⟩:=h
  refine⟨by simp,by simp,?_⟩
  have e:a++d::b++g++r'=a++d::(b++(g++r')):=by simp
  have hh:(g++r').head?=(g++z).head?:=by rw[ZX,ZX,ha]
  rw[e]
  refine xy n a b g r' d h1 h2 h3 h4 h5 (by rw[hh];exact h6) ?_ (by rw[ha];exact h8) (by rw[ha];exact h9)
  intro e0
  rw[e0]at hh
  cases hx:g++z with
  | nil=>exact h7 hx
  | cons x y=>rw[hx]at hh;cases hh
 ·rw[uR n a b g k w d h1 h2 h3 h4 h5 h6 h7]at h
  obtain⟨x,rfl,rfl,hv⟩:=Tp _ _ _ _ _ _ r' _ h ha
  refine⟨by simp,by simp,?_⟩
  have hh:(x++r').head?=(x++r).head?:=by rw[ZX,ZX,ha]
  have e:a++d::b++g++[61]++k++x++r'=a++d::(b++(g++61::(k++(x++r')))):=by simp
  rw[e,uR n a b g k (x++r') d h1 h2 h3 h4 h5 h6 (by rw[hh];exact h7)]
  exact hv
theorem r9(n s c r v:aa)(k:Bool)(m:Md)(h:bi n s=some (c,some (v,k),m,r)):m=some (false,n)/\c≠[] /\
  ((k=true/\∃q:UInt8,(q=34\/q=39)/\c.getLast?=some q/\s=c++(v++q::r)/\∀x r':aa,q∉x->bi n (c++(x++q::r'))=some (c,some (x,true),m,r'))
  \/ (k=false/\s=c++(v++r)/\∀x r':aa,34∉x->bi n (c++34::(x++34::r'))=some (c++[34],some (x,true),m,r'))):=by
 rcases zh n s _ h with⟨a,t,rfl,h1⟩|⟨a,b,g,z,d,rfl,h1,h2,h3,h4,h5,h6,h7,h8,h9⟩|⟨a,b,g,e,w,d,rfl,h1,h2,h3,h4,h5,h6,h7⟩
 ·rw[qC n a t h1]at h
  simp at h
 ·rw[xy n a b g z d h1 h2 h3 h4 h5 h6 h7 h8 h9]at h
  simp at h
 ·rw[uR n a b g e w d h1 h2 h3 h4 h5 h6 h7]at h
  obtain⟨hl,rfl,⟨rfl,q,hq,rfl,rfl⟩|⟨rfl,rfl,rfl⟩⟩:=Jb _ _ _ _ _ _ _ _ _ h
  ·refine⟨rfl,by simp,.inl ⟨rfl,q,hq,by rw[List.getLast?_append];rfl,by simp,fun x r' hx=>?_⟩⟩
   have e1:a++d::b++g++[61]++e++[q]++(x++q::r')=a++d::(b++(g++61::(e++(q::(x++q::r'))))):=by simp
   rw[e1,uR n a b g e _ d h1 h2 h3 h4 h5 h6 (by rcases hq with rfl|rfl<;>simp<;>decide)]
   exact O3 _ _ _ _ _ _ hq hl hx
  ·refine⟨rfl,by simp,.inr ⟨rfl,by simp,fun x r' hx=>?_⟩⟩
   have e1:a++d::b++g++[61]++e++34::(x++34::r')=a++d::(b++(g++61::(e++(34::(x++34::r'))))):=by simp
   rw[e1,uR n a b g e _ d h1 h2 h3 h4 h5 h6 (by simp;decide)]
   exact O3 _ _ _ _ _ _ (.inl rfl) hl hx
theorem gF(s:aa):(ah s).length=s.length:=by unfold ah;simp
theorem qE(a b:aa):ah (a++b)=ah a++ah b:=by unfold ah;simp
theorem lu(sub s a b:aa)(h:iI sub s=some (a,b)):s=a++b/\sub.isPrefixOf (ah b)=true:=by
 induction s generalizing a with
 | nil=>cases h
 | cons c s ih=>
  unfold iI at h
  split at h
  ·rename_i hp
   simp only[Option.some.injEq,Prod.mk.injEq]at h
   obtain⟨rfl,rfl⟩:=h
   exact⟨rfl,hp⟩
  ·obtain⟨q,hq1,hq2⟩:=Z9.1 h
   simp only[Prod.mk.injEq]at hq2
   obtain⟨rfl,rfl⟩:=hq2
   obtain⟨i1,i2⟩:=ih q.1 hq1
   exact⟨by rw[GL,<-i1],i2⟩
theorem zI(sub:aa)(y r r':aa)(hy:sub.length<=y.length)(hy0:y≠[]):∀a:aa,iI sub (a++(y++r))=some (a,y++r)->iI sub (a++(y++r'))=some (a,y++r')
 | [],h=>by
  cases hs:y with
  | nil=>exact absurd hs hy0
  | cons c t=>
   have hp:=(lu _ _ _ _ h).2
   rw[qE]at hp
   rw[rD sub (ah y) (ah r) (ah r') (by rw[gF];exact hy),<-qE,hs]at hp
   show iI sub (c::(t++r'))=_
   have hp:sub.isPrefixOf (ah (c::(t++r')))=true:=hp
   unfold iI
   rw[if_pos hp];rfl
 | c::a,h=>by
  have e:∀z:aa,ah (c::(a++(y++z)))=ah (c::a++y)++ah z:=fun z=>by rw[<-qE];simp
  have hloc:sub.isPrefixOf (ah (c::(a++(y++r))))=sub.isPrefixOf (ah (c::(a++(y++r')))):=by
   rw[e,e]
   exact rD sub _ _ _ (by rw[gF];simp;omega)
  show iI sub (c::(a++(y++r')))=_
  have h':iI sub (c::(a++(y++r)))=some (c::a,y++r):=h
  unfold iI at h' ⊢
  rw[<-hloc]
  split at h'
  ·simp at h'
  ·rename_i hn
   rw[if_neg hn]
   obtain⟨q,hq1,hq2⟩:=Z9.1 h'
   simp only[Prod.mk.injEq,List.cons.injEq,true_and]at hq2
   obtain⟨hq0,hq3⟩:=hq2
   have hq4:iI sub (a++(y++r))=some (a,y++r):=by rw[hq1,<-hq3,<-hq0]
   rw[zI sub y r r' hy hy0 a hq4];rfl
theorem SS(c:UInt8)(h:aQ c=60):c=60:=by
 have key:∀n:Fin 256,aQ (UInt8.ofNat n.val)=60->UInt8.ofNat n.val=60:=by decide +kernel
 have:=key ⟨c.toNat,c.toNat_lt⟩
 have e:UInt8.ofNat c.toNat=c:=by simp
 simp only[e]at this
 exact this h
theorem Td(c:UInt8)(h:aQ c=47):c=47:=by
 have key:∀n:Fin 256,aQ (UInt8.ofNat n.val)=47->UInt8.ofNat n.val=47:=by decide +kernel
 have:=key ⟨c.toNat,c.toNat_lt⟩
 have e:UInt8.ofNat c.toNat=c:=by simp
 simp only[e]at this
 exact this h
theorem PD(n:aa)(h:eu.contains n=true):62∉n:=by
 have key:∀x∈eu,62∉x:=by decide
 exact key n (by simpa using h)
theorem Ey(x r:aa)(h:62∉x):(x++r).takeWhile (· != 62)=x++r.takeWhile (· != 62):=by
 induction x with
 | nil=>rfl
 | cons c x ih=>
  have hc:(c != 62)=true:=by simp only[bne_iff_ne];intro e;exact h (by simp[e])
  rw[GL,ZY,hc]
  simp only[↓reduceIte,GL]
  rw[ih (fun hx=>h (by simp[hx]))]
theorem GY(x r r':aa)(h:62∈x):(x++r).takeWhile (· != 62)=(x++r').takeWhile (· != 62):=by
 induction x with
 | nil=>cases h
 | cons c x ih=>
  rw[GL,GL,ZY,ZY]
  by_cases hc:c=62
  ·subst hc;rfl
  ·have hc':(c != 62)=true:=by simpa using hc
   rw[hc']
   simp only[↓reduceIte,List.cons.injEq,true_and]
   exact ih (by simpa[Ne.symm hc]using h)
theorem LU(n s c r r':aa)(e:Option (aa×Bool))(m:Md)(hn:eu.contains n=true)(h:dF n s=some (c,e,m,r))(ha:Yb none r r'):e=none/\m=none/\s=c++r/\dF n (c++r')=some (c,none,none,r'):=by
 unfold dF at h
 obtain⟨q,hq,he⟩:=Z9.1 h
 simp only[Prod.mk.injEq]at he
 obtain⟨rfl,rfl,rfl,rfl⟩:=he
 have hq:iI (60::47::n) s=some (q.1,q.2):=hq
 obtain⟨h1,h2⟩:=lu _ _ _ _ hq
 obtain⟨t,ht⟩:=VQ.1 h2
 have hlen:(60::47::n).length<=q.2.length:=by
  have:=congrArg List.length ht
  rw[gF,ZZ]at this
  omega
 have hy:ah (q.2.take (60::47::n).length)=60::47::n:=by
  have:ah q.2=ah (q.2.take (60::47::n).length)++ah (q.2.drop (60::47::n).length):=by rw[<-qE,Z6]
  rw[this]at ht
  exact(List.append_inj_left ht (by rw[gF,List.length_take];omega)).symm
 have hno:62∉q.2.take (60::47::n).length:=by
  intro hm
  have:aQ 62∈ah (q.2.take (60::47::n).length):=by unfold ah;exact List.mem_map_of_mem hm
  rw[hy,show aQ 62=62 by decide]at this
  have h6:=PD n hn
  simp at this
  exact h6 this
 have hcut:q.2=q.2.take (60::47::n).length++q.2.drop (60::47::n).length:=(Z6 _ _).symm
 generalize q.2.take (60::47::n).length=y at hy hno hcut
 generalize q.2.drop (60::47::n).length=r1 at hcut
 obtain⟨y2,rfl⟩:∃y2,y=60::47::y2:=by
  match y,hy with
  | [],hy=>cases hy
  | [a],hy=>exact absurd (congrArg List.length hy) (by rw[gF];simp)
  | a::b::y2,hy=>
   have hy':aQ a::aQ b::ah y2=60::47::n:=hy
   simp only[List.cons.injEq]at hy'
   exact⟨y2,by rw[SS a hy'.1,Td b hy'.2.1]⟩
 have htw:=ha.2 rfl (y2++r1) (by rw[hcut];rfl)
 rw[hcut,Ey _ r1 hno]at htw
 have hr':=ZW (p:=(· != 62)) (l:=r')
 rw[htw,Z5]at hr'
 generalize r1.takeWhile (· != 62)++r'.dropWhile (· != 62)=r2 at hr'
 refine⟨rfl,rfl,h1,?_⟩
 have hlen2:(60::47::n).length<=(60::47::y2).length:=by
  have:=congrArg List.length hy
  rw[gF]at this
  omega
 have hl:=zI (60::47::n) (60::47::y2) r1 r2 hlen2 (by simp) q.1 (by rw[<-hcut,<-h1];exact hq)
 unfold dF
 rw[<-hr',hl]
 rfl
theorem VS(t c r:aa)(e:Option (aa×Bool))(m:Md)(h:aR (60::47::t)=some (c,e,m,r)):62∈c:=by
 unfold aR at h
 have hf:bu [60] (60::47::t)=some ([],60::47::t):=by unfold bu;simp
 rw[hf]at h
 simp only[Ws,Xu]at h
 rw[if_neg (by simp[List.isPrefixOf]),if_pos (.inl trivial)]at h
 obtain⟨q,hq,he⟩:=Z9.1 h
 simp only[Prod.mk.injEq]at he
 rw[<-he.1];simp
abbrev dD:=aa×Option (aa×Bool)
inductive Run:Md->aa->List dD->aa->Prop
 | stop (m:Md) (s:aa):Ip m s=none->Run m s [] s
 | go (m m':Md) (s c r tl:aa) (e:Option (aa×Bool)) (its:List dD):Ip m s=some (c,e,m',r)->Run m' r its tl->Run m s ((c,e)::its) tl
def jc:List dD->aa->aa
 | [],tl=>tl
 | (c,none)::its,tl=>c++jc its tl
 | (c,some (v,true))::its,tl=>c++(v++c.getLast?.getD 0::jc its tl)
 | (c,some (v,false))::its,tl=>c++(v++jc its tl)
def gV:List dD->List (aa)->aa->aa
 | [],_,tl=>tl
 | (c,none)::its,vs,tl=>c++gV its vs tl
 | (c,some (_,true))::its,vs,tl=>c++(vs.headD []++c.getLast?.getD 0::gV its vs.tail tl)
 | (c,some (_,false))::its,vs,tl=>c++34::(vs.headD []++34::gV its vs.tail tl)
def vP:List dD->List (aa)->List dD
 | [],_=>[]
 | (c,none)::its,vs=>(c,none)::vP its vs
 | (c,some (_,true))::its,vs=>(c,some (vs.headD [],true))::vP its vs.tail
 | (c,some (_,false))::its,vs=>(c++[34],some (vs.headD [],true))::vP its vs.tail
def Tt(m:Md):Prop:=∀n,m=some (true,n)->eu.contains n=true
theorem RU(m m':Md)(s c r:aa)(e:Option (aa×Bool))(hg:Tt m)(h:Ip m s=some (c,e,m',r)):Tt m':=by
 intro n hn
 subst hn
 match m with
 | none=>
  have h:aR s=some (c,e,some (true,n),r):=h
  unfold aR at h
  repeat' split at h
  all_goals first
   | (cases h;done)
   | (simp at h;done)
   | (obtain⟨q,_,hq⟩:=Z9.1 h;simp at hq)
 | some (true,n')=>
  have h:dF n' s=some (c,e,some (true,n),r):=h
  unfold dF at h
  obtain⟨q,_,hq⟩:=Z9.1 h
  simp at hq
 | some (false,n')=>
  have h:bi n' s=some (c,e,some (true,n),r):=h
  rcases zh n' s _ h with⟨a,t,rfl,h1⟩|⟨a,b,g,z,d,rfl,h1,h2,h3,h4,h5,h6,h7,h8,h9⟩|⟨a,b,g,k,w,d,rfl,h1,h2,h3,h4,h5,h6,h7⟩
  ·rw[qC n' a t h1]at h
   simp only[Option.some.injEq,Prod.mk.injEq]at h
   have h3:=h.2.2.1
   split at h3
   ·rename_i hc
    simp only[Option.some.injEq,Prod.mk.injEq,true_and]at h3
    rw[<-h3];exact hc
   ·cases h3
  ·rw[xy n' a b g z d h1 h2 h3 h4 h5 h6 h7 h8 h9]at h
   simp at h
  ·rw[uR n' a b g k w d h1 h2 h3 h4 h5 h6 h7]at h
   cases e with
   | none=>
    unfold gy at h
    repeat' split at h
    all_goals first
     | (cases h;done)
     | (simp at h;done)
     | (obtain⟨q,_,hq⟩:=Z9.1 h;split at hq<;>simp at hq)
   | some v=>
    obtain⟨_,hm,_⟩:=Jb _ _ _ _ _ _ v.1 v.2 _ h
    simp at hm
theorem Tc(m:Md)(s:aa)(its:List dD)(tl:aa)(hr:Run m s its tl):∀vs:List (aa),Tt m->(∀x∈vs,34∉x/\39∉x)->Run m (gV its vs tl) (vP its vs) tl/\Yb m s (gV its vs tl)/\s=jc its tl:=by
 induction hr with
 | stop m s h=>intro vs _ _;exact⟨Run.stop m s h,⟨rfl,fun _ _ _=>rfl⟩,rfl⟩
 | go m m' s c r tl e its h hrun ih=>
  intro vs hg hv
  have hg':=RU _ _ _ _ _ _ hg h
  have hvt:∀x∈vs.tail,34∉x/\39∉x:=fun x hx=>hv x (List.mem_of_mem_tail hx)
  have hvh:34∉vs.headD []/\39∉vs.headD []:=by
   cases vs with
   | nil=>simp
   | cons x vs=>exact hv x (by simp)
  match m with
  | none=>
   obtain⟨i1,i2,i3⟩:=ih vs hg' hv
   have h:aR s=some (c,e,m',r):=h
   obtain⟨rfl,hs,hc,hl⟩:=qh s c r (gV its vs tl) e m' h i2.1
   refine⟨Run.go none m' _ c (gV its vs tl) tl none _ hl i1,⟨?_,fun _ t ht=>?_⟩,by rw[hs,jc,<-i3]⟩
   ·rw[hs,gV]
    cases c with
    | nil=>exact absurd rfl hc
    | cons a b=>rfl
   ·rw[ht]at h
    have:=VS t c r none m' h
    rw[hs,gV]
    exact GY c _ _ this
  | some (true,n)=>
   obtain⟨i1,i2,i3⟩:=ih vs hg' hv
   have h:dF n s=some (c,e,m',r):=h
   have hm':m'=none:=by
    unfold dF at h
    obtain⟨q,_,hq⟩:=Z9.1 h
    simp only[Prod.mk.injEq]at hq
    exact hq.2.2.1.symm
   subst hm'
   obtain⟨rfl,_,hs,hl⟩:=LU n s c r (gV its vs tl) e none (hg n rfl) h i2
   refine⟨Run.go (some (true,n)) none _ c (gV its vs tl) tl none _ hl i1,⟨?_,fun hm=>by cases hm⟩,by rw[hs,jc,<-i3]⟩
   rw[hs,gV,ZX,ZX,i2.1]
  | some (false,n)=>
   have h:bi n s=some (c,e,m',r):=h
   match e with
   | none=>
    obtain⟨i1,i2,i3⟩:=ih vs hg' hv
    obtain⟨hs,hc,hl⟩:=tJ n s c r (gV its vs tl) m' h i2.1
    refine⟨Run.go (some (false,n)) m' _ c (gV its vs tl) tl none _ hl i1,⟨?_,fun hm=>by cases hm⟩,by rw[hs,jc,<-i3]⟩
    rw[hs,gV]
    cases c with
    | nil=>exact absurd rfl hc
    | cons a b=>rfl
   | some (v,k)=>
    obtain⟨i1,i2,i3⟩:=ih vs.tail hg' hvt
    obtain⟨hm,hc,⟨rfl,q,hq,hlast,hs,hl⟩|⟨rfl,hs,hl⟩⟩:=r9 n s c r v k m' h
    ·refine⟨?_,⟨?_,fun hm=>by cases hm⟩,by rw[hs,jc,<-i3,hlast];rfl⟩
     ·rw[gV,vP,hlast]
      exact Run.go (some (false,n)) m' _ c (gV its vs.tail tl) tl _ _ (hl _ _ (by rcases hq with rfl|rfl;exact hvh.1;exact hvh.2)) i1
     ·rw[hs,gV]
      cases c with
      | nil=>exact absurd rfl hc
      | cons a b=>rfl
    ·refine⟨?_,⟨?_,fun hm=>by cases hm⟩,by rw[hs,jc,<-i3]⟩
     ·rw[gV,vP]
      exact Run.go (some (false,n)) m' _ (c++[34]) (gV its vs.tail tl) tl _ _ (hl _ _ hvh.1) i1
     ·rw[hs,gV]
      cases c with
      | nil=>exact absurd rfl hc
      | cons a b=>rfl
def aC:Nat->List dD->List (Nat×Nat×aa)
 | _,[]=>[]
 | k,(c,none)::its=>aC (k+c.length) its
 | k,(c,some (v,b))::its=>(k+c.length,v.length,dH v)::aC (k+c.length+v.length+(if b then 1 else 0)) its
def eF:List dD->Nat
 | []=>0
 | (_,none)::its=>eF its
 | (_,some _)::its=>eF its+1
theorem gT:∀(its:List dD) (k:Nat),(aC k its).length=eF its
 | [],_=>rfl
 | (c,none)::its,k=>by rw[aC,eF,gT its]
 | (c,some (v,b))::its,k=>by rw[aC,eF,Z7,gT its]
def F6:Md->Nat
 | some (true,_)=>1
 | _=>0
theorem TW(m:Md):F6 m<=1:=by unfold F6;split<;>omega
theorem lD(s:aa)(its:List dD)(tl:aa)(h:Run none s its tl)(vs:List (aa)):s=jc its tl/\Run none (gV its (vs.map eY) tl) (vP its (vs.map eY)) tl:=by
 obtain⟨h1,_,h3⟩:=Tc none s its tl h (vs.map eY) (fun n hn=>by cases hn) (by
  intro x hx
  obtain⟨v,_,rfl⟩:=List.mem_map.1 hx
  exact⟨fun h=>(Cx v 34 h).1 rfl,fun h=>(Cx v 39 h).2.1 rfl⟩)
 exact⟨h3,h1⟩
def yo(x:aa)(o:Out):Out:=(x++o.1,o.2)
theorem BM{p:UInt8->Bool}(s:aa):(s.dropWhile p).dropWhile p=s.dropWhile p/\(s.dropWhile p).takeWhile p=[]:=by
 obtain⟨h1,h2⟩:=bI (p:=p) [] (s.dropWhile p) (by simp) (fe s)
 exact⟨h2,h1⟩
theorem Xe(n nm x pre t:aa):gy n nm (x++pre) t=(gy n nm pre t).map (yo x):=by
 unfold gy
 cases t with
 | nil=>rfl
 | cons q t'=>
  simp only
  by_cases h1:q=34\/q=39
  ·rw[if_pos h1,if_pos h1,aab]
   congr 1
   funext f
   simp only[Function.comp]
   split<;>simp[yo]
  ·rw[if_neg h1,if_neg h1]
   by_cases h2:(q::t').dropWhile eH=[]
   ·rw[if_pos h2,if_pos h2];rfl
   ·rw[if_neg h2,if_neg h2]
    by_cases h3:bZ.contains nm=true
    ·rw[if_pos h3,if_pos h3];simp[yo]
    ·rw[if_neg h3,if_neg h3];simp[yo]
theorem JB(n s:aa):bi n s=(bi n (s.dropWhile dw)).map (yo (s.takeWhile dw)):=by
 obtain⟨h1,h2⟩:=BM (p:=dw) s
 unfold bi
 rw[h1,h2]
 cases s.dropWhile dw with
 | nil=>rfl
 | cons c t=>
  simp only[ZV]
  by_cases h3:c=62
  ·rw[if_pos h3,if_pos h3];simp[yo]
  ·rw[if_neg h3,if_neg h3]
   by_cases h4:t.dropWhile aU=[]
   ·rw[if_pos h4,if_pos h4];rfl
   ·rw[if_neg h4,if_neg h4]
    by_cases h5:((t.dropWhile aU).dropWhile dG).head?=some 61
    ·rw[if_pos h5,if_pos h5,<-Xe]
     congr 1
     simp
    ·rw[if_neg h5,if_neg h5];simp[yo]
theorem FJ(x c:aa)(e:Option (aa×Bool))(its:List dD)(k:Nat):aC (k+x.length) ((c,e)::its)=aC k ((x++c,e)::its):=by
 match e with
 | none=>rw[aC,aC,ZZ,Nat.add_assoc k]
 | some (v,b)=>rw[aC,aC,ZZ,Nat.add_assoc k]
theorem Uk(n s:aa)(its:List dD)(tl:aa)(h:Run (some (false,n)) s its tl):∃its' tl',Run (some (false,n)) (s.dropWhile dw) its' tl'/\∀k,aC (k+(s.takeWhile dw).length) its'=aC k its:=by
 cases h with
 | stop _ _ h=>
  refine⟨[],_,Run.stop _ _ ?_,fun k=>rfl⟩
  have h:bi n s=none:=h
  rw[JB]at h
  exact aac.1 h
 | go _ m' _ c r _ e its h hr=>
  have h:bi n s=some (c,e,m',r):=h
  rw[JB]at h
  obtain⟨o,ho,he⟩:=Z9.1 h
  obtain⟨c1,e1,m1,r1⟩:=o
  simp only[yo,Prod.mk.injEq]at he
  obtain⟨rfl,rfl,rfl,rfl⟩:=he
  exact⟨_,_,Run.go _ _ _ c1 _ _ _ _ ho hr,fun k=>FJ _ _ _ _ _⟩
theorem IX(d:UInt8)(u s:aa)(h:d∉u):bu [d] (u++s)=(bu [d] s).map fun q=>(u++q.1,q.2):=by
 induction u with
 | nil=>simp
 | cons c u ih=>
  have h1:c≠d:=fun e=>h (by simp[e])
  have h2:d∉u:=fun e=>h (by simp[e])
  show bu [d] (c::(u++s))=_
  conv=>lhs;unfold bu
  have h3:([d]:aa).isPrefixOf (c::(u++s))=false:=by
   simp only[List.isPrefixOf,Bool.and_true,beq_eq_false_iff_ne]
   exact fun e=>h1 e.symm
  rw[h3,ih h2,aab]
  rfl
theorem Gn(u s:aa)(h:60∉u):aR (u++s)=(aR s).map (yo u):=by
 unfold aR
 rw[IX 60 u s h]
 cases bu [60] s with
 | none=>rfl
 | some q=>
  obtain⟨q1,q2⟩:=q
  simp only[aaa]
  cases q2.drop 1 with
  | nil=>rfl
  | cons c r=>
   simp only
   by_cases h1:[33,45,45].isPrefixOf (c::r)=true
   ·rw[if_pos h1,if_pos h1,aab]
    congr 1
    funext f
    simp[yo]
   ·rw[if_neg h1,if_neg h1]
    by_cases h2:c=47\/c=33\/c=63
    ·rw[if_pos h2,if_pos h2,aab]
     congr 1
     funext f
     simp[yo]
    ·rw[if_neg h2,if_neg h2]
     by_cases h3:Ce c=true
     ·rw[if_pos h3,if_pos h3];simp[yo]
     ·rw[if_neg h3,if_neg h3];simp[yo]
theorem V9(u s:aa)(hu:60∉u)(its:List dD)(tl:aa)(h:Run none (u++s) its tl):∃its' tl',Run none s its' tl'/\∀k,aC (k+u.length) its'=aC k its:=by
 cases h with
 | stop _ _ h=>
  refine⟨[],_,Run.stop _ _ ?_,fun k=>rfl⟩
  have h:aR (u++s)=none:=h
  rw[Gn u s hu]at h
  exact aac.1 h
 | go _ m' _ c r _ e its h hr=>
  have h:aR (u++s)=some (c,e,m',r):=h
  rw[Gn u s hu]at h
  obtain⟨o,ho,he⟩:=Z9.1 h
  obtain⟨c1,e1,m1,r1⟩:=o
  simp only[yo,Prod.mk.injEq]at he
  obtain⟨rfl,rfl,rfl,rfl⟩:=he
  exact⟨_,_,Run.go _ _ _ c1 _ _ _ _ ho hr,fun k=>FJ _ _ _ _ _⟩
theorem Vi(s:aa)(h:60∉s)(its:List dD)(tl:aa)(hr:Run none s its tl):its=[]:=by
 cases hr with
 | stop _ _ h=>rfl
 | go _ m' _ c r _ e its h2 _=>
  have h2:aR s=some (c,e,m',r):=h2
  have:=Gn s [] h
  rw[List.append_nil]at this
  rw[this]at h2
  cases h2
theorem Oc(m:Md):Run m [] [] []:=Run.stop m [] (by
 match m with
 | none=>rfl
 | some (true,n)=>rfl
 | some (false,n)=>rfl)
theorem Ac(sub l:aa)(h0:sub≠[]):Lib.index (ah l) sub=match iI sub l with|none=>-1|some q=>(q.1.length:Int):=by
 induction l with
 | nil=>
  show Lib.index [] sub=-1
  unfold Lib.index
  cases sub with
  | nil=>exact absurd rfl h0
  | cons a b=>rfl
 | cons c l ih=>
  have e:ah (c::l)=aQ c::ah l:=rfl
  unfold iI
  rw[e]
  unfold Lib.index
  by_cases h:sub.isPrefixOf (aQ c::ah l)=true
  ·rw[if_pos h,if_pos h];rfl
  ·rw[if_neg h,if_neg h,ih]
   cases iI sub l with
   | none=>rfl
   | some q=>
    simp only[aaa,Z7]
    have h1:((q.1.length:Int)==-1)=false:=by simp
    rw[h1]
    simp
def Bz(c:UInt8):Prop:=∀d,aQ d=c↔d=c
theorem De(c:UInt8)(h:∀n:Fin 256,decide (aQ (UInt8.ofNat n.val)=c↔UInt8.ofNat n.val=c)=true):Bz c:=by
 intro d
 have:=h ⟨d.toNat,d.toNat_lt⟩
 have e:UInt8.ofNat d.toNat=d:=by simp
 simp only[e]at this
 exact of_decide_eq_true this
theorem V6:Bz 60:=De _ (by decide +kernel)
theorem O5:Bz 62:=De _ (by decide +kernel)
theorem Wm:Bz 45:=De _ (by decide +kernel)
theorem Ht(sub:aa)(h:∀c∈sub,Bz c)(s:aa):sub.isPrefixOf (ah s)=sub.isPrefixOf s:=by
 induction sub generalizing s with
 | nil=>simp
 | cons c sub ih=>
  cases s with
  | nil=>rfl
  | cons d s=>
   have e:ah (d::s)=aQ d::ah s:=rfl
   rw[e]
   simp only[List.isPrefixOf]
   rw[ih (fun x hx=>h x (by simp[hx])) s]
   congr 1
   rw[Bool.eq_iff_iff,beq_iff_eq,beq_iff_eq]
   have:=h c (by simp) d
   constructor
   ·intro e;exact(this.1 e.symm).symm
   ·intro e;exact(this.2 e.symm).symm
theorem JL(sub:aa)(h:∀c∈sub,Bz c)(s:aa):iI sub s=bu sub s:=by
 induction s with
 | nil=>rfl
 | cons c s ih=>
  unfold iI bu
  rw[Ht sub h,ih]
theorem QB(d:UInt8)(s:aa)(h:bu [d] s=none):d∉s:=by
 induction s with
 | nil=>simp
 | cons c s ih=>
  unfold bu at h
  split at h
  ·cases h
  ·rename_i hp
   have h1:=ih (aac.1 h)
   intro hm
   rcases Z8.1 hm with e|e
   ·apply hp
    simp[List.isPrefixOf,e]
   ·exact h1 e
theorem KE(d:UInt8)(s a b:aa)(h:bu [d] s=some (a,b)):d∉a:=by
 induction s generalizing a with
 | nil=>cases h
 | cons c s ih=>
  unfold bu at h
  split at h
  ·simp only[Option.some.injEq,Prod.mk.injEq]at h
   rw[<-h.1];simp
  ·rename_i hp
   obtain⟨q,hq1,hq2⟩:=Z9.1 h
   simp only[Prod.mk.injEq]at hq2
   obtain⟨rfl,rfl⟩:=hq2
   intro hm
   rcases Z8.1 hm with e|e
   ·apply hp
    simp[List.isPrefixOf,e]
   ·exact ih q.1 hq1 e
theorem Uu(n t:aa):iI (60::47::n) (62::t)=(iI (60::47::n) t).map fun q=>(62::q.1,q.2):=by
 conv=>lhs;unfold iI
 have:(60::47::n).isPrefixOf (ah (62::t))=false:=rfl
 rw[this]
 rfl
end Go.Proofs.YtkldkhdigkpniaaGreatDoor
