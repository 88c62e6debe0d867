import Derived.Lib.ItoaNum
import Derived.Test.YtkldkhdigkpniaaGreatDoorZ8
import Derived.Test.YtkldkhdigkpniaaGreatDoorZ9
open List renaming mem_cons → GL, length_pos_iff → VQ, length_append → Ws, findIdx?_eq_some_iff_getElem → Xu, mem_append → ZV, mem_singleton → ZW
open Bool renaming and_eq_true → ZX
namespace Go.Proofs.YtkldkhdigkpniaaGreatDoor
open Go.RowKit Go.Proofs.Tryz
def sS(l:aa):Nat:=l.foldl (fun a c=>a*10+(c.toNat - 48)) 0
theorem IB(l:aa)(c:UInt8):sS (l++[c])=sS l*10+(c.toNat - 48):=by simp[sS]
theorem uK(d:Nat)(h:d<10):(UInt8.ofNat (48+d)).toNat=48+d:=UInt8.toNat_ofNat_of_lt' (by show 48+d<256;omega)
theorem vI(u:Nat):sS (Lib.decDigits u)=u:=by
 induction u using Nat.strongRecOn with
 | _ u ih=>
  rw[Lib.decDigits]
  by_cases h:u<10
  ·rw[dif_pos h]
   show 0*10+((UInt8.ofNat (48+u)).toNat - 48)=u
   rw[uK u h];omega
  ·rw[dif_neg h,IB,ih (u / 10) (by omega),uK _ (by omega)]
   omega
theorem jM(u:Nat):∀c∈Lib.decDigits u,48<=c.toNat/\c.toNat<=57:=by
 induction u using Nat.strongRecOn with
 | _ u ih=>
  rw[Lib.decDigits]
  by_cases h:u<10
  ·rw[dif_pos h]
   intro c hc
   rw[ZW.1 hc,uK u h]
   omega
  ·rw[dif_neg h]
   intro c hc
   rcases ZV.1 hc with hc|hc
   ·exact ih (u / 10) (by omega) c hc
   ·rw[ZW.1 hc,uK _ (by omega)]
    omega
theorem fI:∀(k u:Nat),u<10 ^ (k+1)->Lib.nDigits u<=k+1
 | 0,u,h=>by rw[Lib.nDigits_small (by simpa using h)];exact Nat.le_refl _
 | k+1,u,h=>by
  by_cases hu:u<10
  ·rw[Lib.nDigits_small hu];omega
  ·rw[Lib.nDigits_big hu]
   have:=fI k (u / 10) (by rw[Nat.pow_succ]at h;omega)
   omega
def ciN:aa:=[99,111,110,116,101,110,116,45,105,100]
def ciB:aa:=[67,111,110,116,101,110,116,45,73,68]
def clN:aa:=[99,111,110,116,101,110,116,45,108,111,99,97,116,105,111,110]
def Bp:aa:=[109,117,108,116,105,112,97,114,116,47,114,101,108,97,116,101,100]
def Si:aa:=[116,101,120,116,47,104,116,109,108]
def stN:aa:=[115,116,97,114,116]
def Xt:aa:=[99,105,100]
def EK:aa:=[112,97,114,116]
def jG(L:List PB)(n:aa):aa:=((vg L n).map (·.2)).getD []
def iH(L:List PB):aa×List PB:=(eO (jG L ctN)).getD ([],[])
def eZ:AB:=⟨[],false,[],[],false,[],false,[]⟩
def dJ(base:AB)(L:List PB):AB:=sU (jv base ((bM (jG L clN)).getD eZ))
def cK(x:aa):aa:=60::(x++[62])
def Bg(s:aa):aa:=match s with
 | []=>[]
 | c::r=>if c=60/\r.getLast?=some 62 then r.dropLast else []
def eqA(a b:AB):Bool:=decide (a.sch=b.sch)&&(a.hasA==b.hasA)&&decide (a.auth=b.auth)&&decide (a.path=b.path)&&(a.hasQ==b.hasQ)&&decide (a.query=b.query)&&(a.hasF==b.hasF)&&decide (a.frag=b.frag)
structure BP where
 head:List PB
 body:aa
 id:aa
 loc:AB
structure BB where
 head:List PB
 ps:List BP
 root:Nat
def kE(ps:List PB):aa:=((ps.find? fun p=>decide (p.1=stN)).map (·.2)).getD []
def oU(ps:List BP)(s:aa):Nat:=(ps.findIdx? fun p=>decide (cK p.id=s)).getD 0
def kV(base:AB):PT->BP
 | .mk L b _ _=>⟨L,b,Bg (jG L ciN),dJ base L⟩
def rO:PT->Bool
 | .mk _ _ m _=>m
def EM:PT->Option BB
 | .mk L _ _ ps=>if decide ((iH L).1=Bp)&&!ps.isEmpty&&ps.all (fun p=>!rO p) then
   some ⟨L,ps.map (kV (dJ eZ L)),oU (ps.map (kV (dJ eZ L))) (kE (iH L).2)⟩ else none
def lX(ps:List BP)(a:AB):Option Nat:=if a.sch=Xt/\a.hasA=false/\a.hasQ=false/\a.path≠[] then ps.findIdx? (fun p=>decide (p.id=a.path)) else none
def jU(ps:List BP)(a:AB):Option Nat:=match lX ps (sU a)with
 | some i=>some i
 | none=>if eqA (sU a) eZ then none else ps.findIdx? (fun p=>eqA p.loc (sU a))
def iJ(ps:List BP)(loc:AB)(v:aa):aa×Option Nat:=match bM v with
 | none=>(v,none)
 | some x=>(bQ (jv loc x),jU ps (jv loc x))
def LZ:Nat->Md->aa->List dD×aa
 | 0,_,s=>([],s)
 | k+1,m,s=>match Ip m s with
  | none=>([],s)
  | some (c,e,m',r)=>((c,e)::(LZ k m' r).1,(LZ k m' r).2)
def nD(s:aa):List dD:=(LZ (2*s.length+1) none s).1
def tlP(s:aa):aa:=(LZ (2*s.length+1) none s).2
def um(s:aa):List (aa):=(aC 0 (nD s)).map fun q=>q.2.2
def dO(p:BP):List (aa):=if (iH p.head).1=Si then um p.body else []
def jD(ps:List BP)(p:BP):List (aa×Option Nat):=(dO p).map (iJ ps p.loc)
def gZ(k:Nat):aa:=64::98::Lib.decDigits k
def fA(n k:Nat):aa:=EK++(Lib.decDigits n++gZ k)
def lq(b:BB):List (aa):=b.head.map (·.2)++b.ps.flatMap fun p=>p.head.map (·.2)++[p.body]
def QY(n k:Nat)(hasF:Bool)(frag:aa):AB:=⟨Xt,false,[],fA n k,false,[],hasF,frag⟩
def jN(ps:List BP)(loc:AB)(k:Nat)(v:aa):aa:=match(iJ ps loc v).2 with
 | none=>v
 | some n=>bQ (QY n k ((bM v).getD eZ).hasF ((bM v).getD eZ).frag)
def ui(L:List PB)(n k:Nat):List PB:=(L.filter fun f=>!decide (ah f.1=ciN))++[(ciB,cK (fA n k))]
def mW(ps:List BP)(p:BP)(k:Nat):aa:=if dO p=[] then p.body else gV (nD p.body) (((dO p).map (jN ps p.loc k)).map eY) (tlP p.body)
def C8(v:aa):List PB->List PB
 | []=>[]
 | f::L=>if ah f.1=ctN then (f.1,v)::L else f::C8 v L
def nR(L:List PB)(id:aa):aa:=eQ (iH L).1 (((iH L).2.filter fun p=>!decide (p.1=stN))++[(stN,cK id)])
def j4(L:List PB)(id:aa):List PB:=C8 (nR L id) L
def zq(ps:List BP)(k n:Nat)(p:BP):PT:=.mk (ui p.head n k) (mW ps p k) false []
def nu(b:BB)(k:Nat):PT:=.mk (j4 b.head (fA b.root k)) [] true (b.ps.mapIdx fun n p=>zq b.ps k n p)
theorem Oo(a b:AB):eqA a b=true↔a=b:=by
 obtain⟨a1,a2,a3,a4,a5,a6,a7,a8⟩:=a
 obtain⟨b1,b2,b3,b4,b5,b6,b7,b8⟩:=b
 unfold eqA
 simp only[ZX,decide_eq_true_eq,beq_iff_eq,AB.mk.injEq]
 constructor
 ·rintro⟨⟨⟨⟨⟨⟨⟨rfl,rfl⟩,rfl⟩,rfl⟩,rfl⟩,rfl⟩,rfl⟩,rfl⟩
  exact⟨rfl,rfl,rfl,rfl,rfl,rfl,rfl,rfl⟩
 ·rintro⟨rfl,rfl,rfl,rfl,rfl,rfl,rfl,rfl⟩
  exact⟨⟨⟨⟨⟨⟨⟨rfl,rfl⟩,rfl⟩,rfl⟩,rfl⟩,rfl⟩,rfl⟩,rfl⟩
theorem Jq:∀(k:Nat) (m:Md) (s:aa),2*s.length+F6 m<k->Run m s (LZ k m s).1 (LZ k m s).2
 | 0,_,_,h=>absurd h (by omega)
 | k+1,m,s,h=>by
  unfold LZ
  cases hs:Ip m s with
  | none=>exact Run.stop m s hs
  | some o=>
   obtain⟨c,e,m',r⟩:=o
   have hlt:2*r.length+F6 m'<k:=by
    have hle:=TW m'
    match m with
    | none=>
     have hs:aR s=some (c,e,m',r):=hs
     obtain⟨_,h1,h2,_⟩:=qh s c r r e m' hs rfl
     have:=congrArg List.length h1
     have:=VQ.2 h2
     simp only[Ws]at *
     omega
    | some (true,n)=>
     have hs:dF n s=some (c,e,m',r):=hs
     unfold dF at hs
     obtain⟨q,hq,hq2⟩:=Option.map_eq_some_iff.1 hs
     simp only[Prod.mk.injEq]at hq2
     obtain⟨rfl,_,rfl,rfl⟩:=hq2
     have h1:=(lu _ _ q.1 q.2 hq).1
     have hw:F6 (some (true,n))=1:=rfl
     have hw':F6 none=0:=rfl
     have:=congrArg List.length h1
     simp only[Ws]at *
     omega
    | some (false,n)=>
     have hs:bi n s=some (c,e,m',r):=hs
     match e with
     | none=>
      obtain⟨h1,h2,_⟩:=tJ n s c r r m' hs rfl
      have:=congrArg List.length h1
      have:=VQ.2 h2
      simp only[Ws]at *
      omega
     | some (v,b)=>
      obtain⟨_,h2,⟨_,q,_,_,h1,_⟩|⟨_,h1,_⟩⟩:=r9 n s c r v b m' hs
      all_goals
       have:=congrArg List.length h1
       have:=VQ.2 h2
       simp only[Ws,List.length_cons]at *
       omega
   exact Run.go m m' s c r _ e _ hs (Jq k m' r hlt)
theorem fV(s:aa):Run none s (nD s) (tlP s):=Jq _ none s (by show 2*s.length+0<_;omega)
def ZH(m p:aa):Prop:=∀x∈dh p,vH m x
theorem Zh{n k:Nat}(h:ZH (gZ k) (fA n k)):False:=by
 have hs:(47:UInt8)∉fA n k:=by
  intro hm
  unfold fA gZ at hm
  simp only[ZV,GL]at hm
  rcases hm with hm|hm|hm|hm|hm
  ·exact absurd hm (by decide)
  ·have:=jM n _ hm;simp at this
  ·exact absurd hm (by decide)
  ·exact absurd hm (by decide)
  ·have:=jM k _ hm;simp at this
 have:=h (fA n k) (by rw[vE _ hs];simp)
 exact this (EK++Lib.decDigits n) [] (by unfold fA;simp)
def nY(c:UInt8):Prop:=c≠38/\c≠34/\c≠39/\c≠60/\c≠62
theorem M3(k:Nat):∀c∈gZ k,nY c:=by
 intro c hc
 unfold gZ at hc
 simp only[GL]at hc
 unfold nY
 rcases hc with rfl|rfl|hc
 ·decide
 ·decide
 ·have:=jM k c hc
  refine⟨?_,?_,?_,?_,?_⟩<;>(rintro rfl;simp at this)
theorem x9:∀(its:List dD) (k:Nat) (tl:aa),∀q∈aC k its,∃v u t,q.2.2=dH v/\jc its tl=u++v++t
 | [],_,_=>by intro q hq;cases hq
 | (c,none)::its,k,tl=>by
  intro q hq
  rw[aC]at hq
  obtain⟨v,u,t,h1,h2⟩:=x9 its _ tl q hq
  exact⟨v,c++u,t,h1,by rw[jc,h2];simp⟩
 | (c,some (v,true))::its,k,tl=>by
  intro q hq
  rw[aC]at hq
  rcases GL.1 hq with rfl|hq
  ·exact⟨v,c,c.getLast?.getD 0::jc its tl,rfl,by rw[jc];simp⟩
  ·obtain⟨v',u,t,h1,h2⟩:=x9 its _ tl q hq
   exact⟨v',c++(v++c.getLast?.getD 0::u),t,h1,by rw[jc,h2];simp⟩
 | (c,some (v,false))::its,k,tl=>by
  intro q hq
  rw[aC]at hq
  rcases GL.1 hq with rfl|hq
  ·exact⟨v,c,jc its tl,rfl,by rw[jc];simp⟩
  ·obtain⟨v',u,t,h1,h2⟩:=x9 its _ tl q hq
   exact⟨v',c++(v++u),t,h1,by rw[jc,h2];simp⟩
theorem Qq:eO []=none:=by decide +kernel
theorem E8(L:List PB)(m:aa)(hm:m≠[])(h:(iH L).1=m):∃f ps,vg L ctN=some f/\eO f.2=some (m,ps)/\iH L=(m,ps):=by
 unfold iH jG at *
 cases hg:vg L ctN with
 | none=>
  rw[hg]at h
  simp only[Option.map_none,Option.getD_none,Qq]at h
  exact absurd h.symm hm
 | some f=>
  rw[hg]at h
  simp only[Option.map_some,Option.getD_some]at h ⊢
  cases hr:eO f.2 with
  | none=>rw[hr]at h;exact absurd h.symm hm
  | some q=>
   rw[hr]at h
   simp only[Option.getD_some]at h ⊢
   exact⟨f,q.2,rfl,by rw[<-h,hr],by rw[<-h]⟩
theorem JG(c:UInt8)(h1:48<=c.toNat)(h2:c.toNat<=57):inC c=true:=by
 unfold inC
 simp only[ZX,decide_eq_true_eq]
 omega
theorem Sj(n k:Nat):(cK (fA n k)).all inC=true:=by
 rw[List.all_eq_true]
 intro c hc
 unfold cK fA gZ at hc
 simp only[GL,ZV,List.not_mem_nil,or_false]at hc
 rcases hc with rfl|(hc|hc|rfl|rfl|hc)|rfl
 ·decide
 ·have key:∀c∈EK,inC c=true:=by decide
  exact key c hc
 ·have:=jM n c hc;exact JG c this.1 this.2
 ·decide
 ·decide
 ·have:=jM k c hc;exact JG c this.1 this.2
 ·decide
theorem TB:Bp≠[]:=by decide
theorem nN{α:Type}(f:α->Bool)(l:List α)(n:Nat)(hn:n<l.length)(h1:f l[n]=true)(h2:∀j (hj:j<n),f (l[j]'(by omega))=false):l.findIdx? f=some n:=by
 rw[Xu]
 exact⟨hn,h1,fun j hj=>by rw[h2 j hj];simp⟩
theorem KU(ps:List BP)(s:aa)(h:ps≠[]):oU ps s<ps.length:=by
 unfold oU
 have h0:=VQ.2 h
 cases hf:ps.findIdx? fun p=>decide (cK p.id=s)with
 | none=>exact h0
 | some i=>
  have:=(Xu.1 hf).1
  exact this
theorem xE(bs:List BP)(y:AB)(n:Nat)(h:jU bs y=some n):n<bs.length:=by
 unfold jU at h
 cases hb:lX bs (sU y)with
 | some i=>
  rw[hb]at h
  obtain rfl:=Option.some.inj h
  unfold lX at hb
  split at hb
  ·exact(Xu.1 hb).1
  ·cases hb
 | none=>
  rw[hb]at h
  simp only at h
  split at h
  ·cases h
  ·exact(Xu.1 h).1
structure Tm(b:BB):Prop where
 rel:(iH b.head).1=Bp
 some:b.ps≠[]
 root:b.root<b.ps.length
 loc:∀p∈b.ps,p.loc=dJ (dJ eZ b.head) p.head
theorem P9(p:PT)(b:BB)(h:EM p=some b):Tm b:=by
 obtain⟨L,x,m,ps⟩:=p
 rw[EM]at h
 split at h
 ·rename_i hc
  simp only[ZX,decide_eq_true_eq,Bool.not_eq_true',List.isEmpty_eq_false_iff]at hc
  obtain rfl:=Option.some.inj h
  have hne:ps.map (kV (dJ eZ L))≠[]:=by simpa using hc.1.2
  refine⟨hc.1.1,hne,KU _ _ hne,?_⟩
  intro q hq
  obtain⟨r,_,rfl⟩:=List.mem_map.1 hq
  obtain⟨L',x',m',ps'⟩:=r
  rfl
 ·cases h
end Go.Proofs.YtkldkhdigkpniaaGreatDoor
