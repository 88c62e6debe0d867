import Derived.Lib.IndexMore
import Derived.Test.YtkldkhdigkpniaaGreatDoorZ7
open List renaming mem_cons_of_mem → GL, mem_cons → VQ, mem_cons_self → Ws, mem_append → Xu, mem_singleton → ZV, dropLast_subset → ZW, drop_left → ZX, all_eq_true → ZY, mem_append_right → ZZ
namespace Go.Proofs.YtkldkhdigkpniaaGreatDoor
open Go.RowKit Go.Proofs.Tryz
def dh:aa->List (aa)
 | []=>[[]]
 | c::l=>if c=47 then []::dh l else match dh l with|[]=>[[c]]|x::r=>(c::x)::r
def vw:List (aa)->aa
 | []=>[]
 | [x]=>x
 | x::y::r=>x++47::vw (y::r)
theorem Gr(t:aa):dh (47::t)=[]::dh t:=by
 conv=>lhs;unfold dh
 rw[if_pos rfl]
theorem KP(c:UInt8)(l:aa)(h:c≠47):dh (c::l)=match dh l with|[]=>[[c]]|x::r=>(c::x)::r:=by
 conv=>lhs;unfold dh
 rw[if_neg h]
theorem qB(l:aa):dh l≠[]:=by
 cases l with
 | nil=>simp[dh]
 | cons c l=>
  unfold dh
  split
  ·simp
  ·split<;>simp
theorem qZ(x:aa)(r:List (aa))(h:r≠[]):vw (x::r)=x++47::vw r:=by
 cases r with
 | nil=>exact absurd rfl h
 | cons y r=>rfl
theorem Lh(l:aa):vw (dh l)=l:=by
 induction l with
 | nil=>rfl
 | cons c l ih=>
  unfold dh
  by_cases h:c=47
  ·rw[if_pos h,qZ _ _ (qB l),ih,h];rfl
  ·rw[if_neg h]
   cases hs:dh l with
   | nil=>exact absurd hs (qB l)
   | cons x r=>
    rw[hs]at ih
    simp only
    cases r with
    | nil=>simp only[vw]at ih ⊢;rw[ih]
    | cons y r=>rw[qZ _ _ (by simp)]at ih ⊢;rw[<-ih];rfl
theorem vE(x:aa)(h:(47:UInt8)∉x):dh x=[x]:=by
 induction x with
 | nil=>rfl
 | cons c x ih=>
  unfold dh
  rw[if_neg (fun e=>h (by rw[e];simp)),ih (fun hm=>h (GL _ hm))]
theorem R4(x t:aa)(h:(47:UInt8)∉x):dh (x++47::t)=x::dh t:=by
 induction x with
 | nil=>exact Gr t
 | cons c x ih=>
  show dh (c::(x++47::t))=_
  rw[KP _ _ (fun e=>h (by rw[e];simp)),ih (fun hm=>h (GL _ hm))]
theorem PS(l:aa):∀x∈dh l,(47:UInt8)∉x/\∀c∈x,c∈l:=by
 induction l with
 | nil=>intro x hx;simp[dh]at hx;subst hx;exact⟨by simp,fun c hc=>absurd hc (by simp)⟩
 | cons c l ih=>
  intro x hx
  unfold dh at hx
  by_cases h:c=47
  ·rw[if_pos h]at hx
   rcases VQ.1 hx with rfl|hx
   ·exact⟨by simp,fun c hc=>absurd hc (by simp)⟩
   ·exact⟨(ih x hx).1,fun d hd=>GL _ ((ih x hx).2 d hd)⟩
  ·rw[if_neg h]at hx
   cases hs:dh l with
   | nil=>exact absurd hs (qB l)
   | cons y r=>
    rw[hs]at hx ih
    simp only at hx
    rcases VQ.1 hx with rfl|hx
    ·obtain⟨i1,i2⟩:=ih y Ws
     refine⟨fun hm=>?_,fun d hd=>?_⟩
     ·rcases VQ.1 hm with e|hm
      ·exact h e.symm
      ·exact i1 hm
     ·rcases VQ.1 hd with rfl|hd
      ·exact Ws
      ·exact GL _ (i2 d hd)
    ·obtain⟨i1,i2⟩:=ih x (GL _ hx)
     exact⟨i1,fun d hd=>GL _ (i2 d hd)⟩
def dot:aa:=[46]
def gP:aa:=[46,46]
def tq(o:List (aa)):List (aa):=if o=[[]] then o else o.dropLast
def iL:List (aa)->Bool->List (aa)->List (aa)
 | o,_,[]=>o
 | o,f,x::r=>if x=[]/\r≠[]/\f=false then iL o false r
  else if x≠dot/\x≠gP then iL (o++[x]) false r
  else if r=[] then (if x=gP then tq o else o)++[[]]
  else iL (if x=gP then tq o else o) false r
def lS(p:aa):aa:=vw (iL [] true (dh p))
def Bu(x:aa):Prop:=x≠dot/\x≠gP/\(47:UInt8)∉x
def CE(o:List (aa)):Prop:=(∀x∈o,Bu x)/\∀x∈o.tail,x≠[]
def NQ(o:List (aa)):Prop:=o≠[]/\(∀x∈o,Bu x)/\∀x∈o.dropLast.tail,x≠[]
theorem PZ{o:List (aa)}(h:CE o):CE (tq o):=by
 unfold tq
 split
 ·exact h
 ·refine⟨fun x hx=>h.1 x (ZW _ hx),fun x hx=>h.2 x ?_⟩
  rw[List.tail_dropLast]at hx
  exact ZW _ hx
theorem Bv{o:List (aa)}(h:CE o)(x:aa)(hx:Bu x):NQ (o++[x]):=by
 refine⟨by simp,fun y hy=>?_,fun y hy=>?_⟩
 ·rcases Xu.1 hy with hy|hy
  ·exact h.1 y hy
  ·rw[ZV.1 hy];exact hx
 ·rw[List.dropLast_concat]at hy
  exact h.2 y hy
theorem Kq:Bu []:=⟨by decide,by decide,by simp⟩
theorem QT{o:List (aa)}(h:CE o)(x:aa)(hx:Bu x)(hne:o≠[]->x≠[]):CE (o++[x]):=by
 refine⟨fun y hy=>?_,fun y hy=>?_⟩
 ·rcases Xu.1 hy with hy|hy
  ·exact h.1 y hy
  ·rw[ZV.1 hy];exact hx
 ·cases o with
  | nil=>simp at hy
  | cons a o=>
   simp only[List.cons_append,List.tail_cons]at hy
   rcases Xu.1 hy with hy|hy
   ·exact h.2 y hy
   ·rw[ZV.1 hy];exact hne (by simp)
theorem qX:∀(l o:List (aa)) (f:Bool),l≠[]->CE o->(f=true->o=[])->(∀x∈l,(47:UInt8)∉x)->NQ (iL o f l)
 | [],o,f,h0,_,_,_=>absurd rfl h0
 | x::r,o,f,_,ho,hf,hl=>by
  have hx:=hl x Ws
  have hr:∀y∈r,(47:UInt8)∉y:=fun y hy=>hl y (GL _ hy)
  unfold iL
  by_cases h1:x=[]/\r≠[]/\f=false
  ·rw[if_pos h1]
   exact qX r o false h1.2.1 ho (fun h=>by cases h) hr
  ·rw[if_neg h1]
   by_cases h2:x≠dot/\x≠gP
   ·rw[if_pos h2]
    by_cases h3:r=[]
    ·subst h3
     exact Bv ho x ⟨h2.1,h2.2,hx⟩
    ·refine qX r _ false h3 (QT ho x ⟨h2.1,h2.2,hx⟩ fun hne hxe=>?_) (fun h=>by cases h) hr
     apply h1
     refine⟨hxe,h3,?_⟩
     cases f
     ·rfl
     ·exact absurd (hf rfl) hne
   ·rw[if_neg h2]
    have hp:CE (if x=gP then tq o else o):=by
     split
     ·exact PZ ho
     ·exact ho
    by_cases h3:r=[]
    ·rw[if_pos h3]
     exact Bv hp [] Kq
    ·rw[if_neg h3]
     exact qX r _ false h3 hp (fun h=>by cases h) hr
theorem zV(p:aa):NQ (iL [] true (dh p)):=
 qX _ [] true (qB p) ⟨fun x hx=>absurd hx (by simp),fun x hx=>absurd hx (by simp)⟩ (fun _=>rfl) (fun x hx=>(PS p x hx).1)
structure AB where
 sch:aa
 hasA:Bool
 auth:aa
 path:aa
 hasQ:Bool
 query:aa
 hasF:Bool
 frag:aa
def yx(c:UInt8):Bool:=decide (33<=c.toNat)&&decide (c.toNat<=126)
def rW(c:UInt8):Bool:=decide (97<=(aQ c).toNat)&&decide ((aQ c).toNat<=122)
def vk(c:UInt8):Bool:=rW c||(decide (48<=c.toNat)&&decide (c.toNat<=57))||c==43||c==45||c==46
def Am(l:aa):Bool:=match l with|[]=>false|c::r=>rW c&&r.all vk
def Cj(t:aa):aa×aa:=if (Lib.cut t [58]).2.2&&Am (Lib.cut t [58]).1 then ((Lib.cut t [58]).1,(Lib.cut t [58]).2.1) else ([],t)
def wP(t:aa):Bool×aa×aa:=if t.take 2=[47,47] then (true,(t.drop 2).takeWhile (· != 47),(t.drop 2).dropWhile (· != 47)) else (false,[],t)
def bM(s:aa):Option AB:=
 if s.all yx then
  let f:=Lib.cut s [35]
  let q:=Lib.cut f.1 [63]
  let c:=Cj q.1
  let a:=wP c.2
  some { sch:=c.1,hasA:=a.1,auth:=a.2.1,path:=a.2.2,hasQ:=q.2.2,query:=q.2.1,hasF:=f.2.2,frag:=f.2.1 }
 else none
def bQ(a:AB):aa:=(if a.sch=[] then [] else a.sch++[58])++(if a.hasA then 47::47::a.auth else [])++a.path++(if a.hasQ then 63::a.query else [])++(if a.hasF then 35::a.frag else [])
theorem xC(x t:aa)(d:UInt8)(h:∀c∈x,c≠d):Lib.cut (x++d::t) [d]=(x,t,true):=by
 have hi:Lib.index (x++d::t) [d]=(x.length:Nat):=by
  refine Lib.index_first (by simp) ?_ ?_
  ·unfold Lib.occAt
   rw[ZX]
   simp
  ·intro j hj
   unfold Lib.occAt
   have e:(x++d::t).drop j=x[j]::(x.drop (j+1)++d::t):=by
    rw[List.drop_append_of_le_length (by omega),List.drop_eq_getElem_cons hj];rfl
   rw[e]
   have hne:(d==x[j])=false:=by
    rw[beq_eq_false_iff_ne]
    exact fun e=>h x[j] (List.getElem_mem hj) e.symm
   simp[List.isPrefixOf,hne]
 unfold Lib.cut
 rw[hi,if_pos (by omega)]
 have e:((x.length:Nat):Int).toNat=x.length:=by omega
 have e2:(x++d::t).drop (x.length+[d].length)=t:=by
  have:x++d::t=(x++[d])++t:=by simp
  rw[this,<-List.length_append]
  exact ZX
 rw[e,e2,List.take_left]
theorem EO(x:aa)(d:UInt8)(h:∀c∈x,c≠d):Lib.cut x [d]=(x,[],false):=by
 have hi:Lib.index x [d]=-1:=by
  refine Lib.index_none fun j hj=>?_
  unfold Lib.occAt
  cases hd:x.drop j with
  | nil=>rfl
  | cons c r=>
   have hc:c∈x:=List.mem_of_mem_drop (by rw[hd];exact Ws)
   have hne:(d==c)=false:=by
    rw[beq_eq_false_iff_ne]
    exact fun e=>h c hc e.symm
   simp[List.isPrefixOf,hne]
 unfold Lib.cut
 rw[hi,if_neg (by decide)]
theorem C9(s:aa)(d:UInt8):(∃x y,s=x++d::y/\(∀c∈x,c≠d)/\Lib.cut s [d]=(x,y,true))\/((∀c∈s,c≠d)/\Lib.cut s [d]=(s,[],false)):=by
 by_cases h:d∈s
 ·left
  obtain⟨x,y,hs,hx⟩:=List.append_of_mem h |>.elim fun a ⟨b,hb⟩=>by
   have key:∀s:aa,d∈s->∃x y,s=x++d::y/\∀c∈x,c≠d:=by
    intro s
    induction s with
    | nil=>intro h;simp at h
    | cons c s ih=>
     intro h
     by_cases hc:c=d
     ·exact⟨[],s,by rw[hc];rfl,fun c hc=>absurd hc (by simp)⟩
     ·have:d∈s:=by
       rcases VQ.1 h with h|h
       ·exact absurd h.symm hc
       ·exact h
      obtain⟨x,y,h1,h2⟩:=ih this
      refine⟨c::x,y,by rw[h1];rfl,fun e he=>?_⟩
      rcases VQ.1 he with rfl|he
      ·exact hc
      ·exact h2 e he
   exact key s h
  exact⟨x,y,hs,hx,by rw[hs];exact xC x y d hx⟩
 ·right
  have h':∀c∈s,c≠d:=fun c hc e=>h (by rw[<-e];exact hc)
  exact⟨h',EO s d h'⟩
theorem TS(t:aa):(Cj t=([],t))\/∃x y,t=x++58::y/\Cj t=(x,y)/\Am x=true/\∀c∈x,c≠58:=by
 unfold Cj
 rcases C9 t 58 with⟨x,y,h1,h2,h3⟩|⟨_,h3⟩
 ·rw[h3]
  by_cases hs:Am x=true
  ·right
   refine⟨x,y,h1,?_,hs,h2⟩
   simp[hs]
  ·left
   simp[hs]
 ·left
  rw[h3]
  simp
theorem Qt(t:aa):((∀q,t≠47::47::q)/\wP t=(false,[],t))\/∃x y,t=47::47::(x++y)/\wP t=(true,x,y)/\(∀c∈x,c≠47)/\(y=[]\/∃z,y=47::z):=by
 unfold wP
 by_cases h:t.take 2=[47,47]
 ·right
  rw[if_pos h]
  have ht:t=47::47::t.drop 2:=by
   have:=List.take_append_drop 2 t
   rw[h]at this
   exact this.symm
  refine⟨(t.drop 2).takeWhile (· != 47),(t.drop 2).dropWhile (· != 47),?_,rfl,?_,?_⟩
  ·rw[List.takeWhile_append_dropWhile];exact ht
  ·intro c hc
   have:=bg (p:=fun c=>c != 47) (t.drop 2) c hc
   simpa using this
  ·cases hd:(t.drop 2).dropWhile (· != 47)with
   | nil=>exact .inl rfl
   | cons a b=>
    have:=List.head_dropWhile_not (fun x:UInt8=>x != 47) (l:=t.drop 2) (by rw[hd];simp)
    simp only[hd,List.head_cons]at this
    have ha:a=47:=by simpa using this
    exact .inr ⟨b,by rw[ha]⟩
 ·left
  rw[if_neg h]
  exact⟨fun q e=>h (by rw[e];rfl),rfl⟩
structure ZR(a:AB):Prop where
 bytes:∀c,c∈a.sch\/c∈a.auth\/c∈a.path\/c∈a.query\/c∈a.frag->yx c=true
 scheme:a.sch=[]\/Am a.sch=true
 auth1:∀c∈a.auth,c≠47/\c≠63/\c≠35
 path1:∀c∈a.path,c≠63/\c≠35
 query1:∀c∈a.query,c≠35
 auth0:a.hasA=false->a.auth=[]
 query0:a.hasQ=false->a.query=[]
 frag0:a.hasF=false->a.frag=[]
 path2:a.hasA=true->a.path=[]\/∃z,a.path=47::z
 path3:a.hasA=false->∀q,a.path≠47::47::q
theorem IU(c:UInt8)(h:rW c=true):vk c=true/\rW (aQ c)=true:=by
 refine⟨by unfold vk;rw[h];rfl,?_⟩
 unfold rW at h ⊢
 rw[Be]
 exact h
theorem UY{l:aa}(h:Am l=true):l≠[]/\∀c∈l,vk c=true:=by
 cases l with
 | nil=>cases h
 | cons c r=>
  simp only[Am,Bool.and_eq_true,ZY]at h
  refine⟨by simp,fun d hd=>?_⟩
  rcases VQ.1 hd with rfl|hd
  ·exact(IU d h.1).1
  ·exact h.2 d hd
theorem Bl(s:aa)(a:AB)(h:bM s=some a):bQ a=s/\ZR a:=by
 unfold bM at h
 split at h
 ·rename_i hall
  have hin:∀c∈s,yx c=true:=ZY.1 hall
  obtain⟨fx,fb,fy,hf,hs1,hf1,hf0⟩:∃fx fb fy,Lib.cut s [35]=(fx,fy,fb)/\s=fx++(if fb then 35::fy else [])/\(∀c∈fx,c≠35)/\(fb=false->fy=[]):=by
   rcases C9 s 35 with⟨x,y,h1,h2,h3⟩|⟨h2,h3⟩
   ·exact⟨x,true,y,h3,h1,h2,fun h=>by cases h⟩
   ·exact⟨s,false,[],h3,by simp,h2,fun _=>rfl⟩
  obtain⟨qx,qb,qy,hq,hs2,hq1,hq0⟩:∃qx qb qy,Lib.cut fx [63]=(qx,qy,qb)/\fx=qx++(if qb then 63::qy else [])/\(∀c∈qx,c≠63)/\(qb=false->qy=[]):=by
   rcases C9 fx 63 with⟨x,y,h1,h2,h3⟩|⟨h2,h3⟩
   ·exact⟨x,true,y,h3,h1,h2,fun h=>by cases h⟩
   ·exact⟨fx,false,[],h3,by simp,h2,fun _=>rfl⟩
  obtain⟨sx,sy,hc,hs3,hsch⟩:∃sx sy,Cj qx=(sx,sy)/\qx=(if sx=[] then [] else sx++[58])++sy/\(sx=[]\/Am sx=true):=by
   rcases TS qx with h3|⟨x,y,h1,h3,h4,_⟩
   ·exact⟨[],qx,h3,by simp,.inl rfl⟩
   ·exact⟨x,y,h3,by rw[if_neg (UY h4).1,h1];simp,.inr h4⟩
  obtain⟨ab,ax,ay,ha,hs4,ha0,ha1,ha2,ha3⟩:∃ab ax ay,wP sy=(ab,ax,ay)/\sy=(if ab then 47::47::ax else [])++ay/\(ab=false->ax=[])/\(∀c∈ax,c≠47)/\(ab=true->ay=[]\/∃z,ay=47::z)/\(ab=false->∀q,ay≠47::47::q):=by
   rcases Qt sy with⟨h1,h2⟩|⟨x,y,h1,h2,h3,h4⟩
   ·exact⟨false,[],sy,h2,by simp,fun _=>rfl,fun c hc=>absurd hc (by simp),fun h=>(by cases h),fun _=>h1⟩
   ·exact⟨true,x,y,h2,by rw[h1];simp,fun h=>(by cases h),h3,fun _=>h4,fun h=>by cases h⟩
  simp only[hf,hq,hc,ha,Option.some.injEq]at h
  subst h
  have hq2:∀c∈qx,c≠63/\c≠35:=fun c hcx=>⟨hq1 c hcx,hf1 c (by rw[hs2];exact List.mem_append_left _ hcx)⟩
  have hsy:∀c∈sy,c≠63/\c≠35:=fun c hcx=>hq2 c (by rw[hs3];exact ZZ _ hcx)
  refine⟨?_,?_,hsch,?_,?_,?_,ha0,hq0,hf0,ha2,ha3⟩
  ·show(if sx=[] then [] else sx++[58])++(if ab=true then 47::47::ax else [])++ay++(if qb=true then 63::qy else [])++(if fb=true then 35::fy else [])=s
   rw[hs1,hs2,hs3,hs4]
   simp only[List.append_assoc]
  ·intro c hcx
   refine hin c ?_
   rw[hs1,hs2,hs3,hs4]
   rcases hcx with h|h|h|h|h
   ·have h':c∈sx:=h
    have:sx≠[]:=fun e=>by rw[e]at h';simp at h'
    rw[if_neg this]
    simp[h']
   ·have h':c∈ax:=h
    have:ab=true:=by
     cases ab
     ·rw[ha0 rfl]at h';simp at h'
     ·rfl
    rw[this]
    simp[h']
   ·have h':c∈ay:=h
    simp[h']
   ·have h':c∈qy:=h
    have:qb=true:=by
     cases qb
     ·rw[hq0 rfl]at h';simp at h'
     ·rfl
    rw[this]
    simp[h']
   ·have h':c∈fy:=h
    have:fb=true:=by
     cases fb
     ·rw[hf0 rfl]at h';simp at h'
     ·rfl
    rw[this]
    simp[h']
  ·intro c hcx
   have hcx':c∈ax:=hcx
   have hab:ab=true:=by
    cases ab
    ·rw[ha0 rfl]at hcx';simp at hcx'
    ·rfl
   have:=hsy c (by rw[hs4,hab];simp[hcx'])
   exact⟨ha1 c hcx',this.1,this.2⟩
  ·intro c hcx
   exact hsy c (by rw[hs4];exact ZZ _ hcx)
  ·intro c hcx
   have hcx':c∈qy:=hcx
   have hqb:qb=true:=by
    cases qb
    ·rw[hq0 rfl]at hcx';simp at hcx'
    ·rfl
   exact hf1 c (by rw[hs2,hqb];simp[hcx'])
 ·cases h
def xV(p:aa):aa:=(p.reverse.dropWhile (· != 47)).reverse
def GX(b:AB):aa:=if b.hasA=true/\b.path=[] then [47] else xV b.path
def jv(b a:AB):AB:=
 if a.sch≠[]\/a.hasA=true then { a with sch:=if a.sch=[] then b.sch else a.sch,path:=lS a.path }
 else if a.path=[] then (if a.hasQ then { b with hasQ:=a.hasQ,query:=a.query,hasF:=a.hasF,frag:=a.frag } else { b with hasF:=a.hasF,frag:=a.frag })
 else { b with hasQ:=a.hasQ,query:=a.query,hasF:=a.hasF,frag:=a.frag,path:=lS (if a.path.head?=some 47 then a.path else GX b++a.path) }
def sU(a:AB):AB:={ sch:=ah a.sch,hasA:=a.hasA,auth:=ah a.auth,path:=a.path,hasQ:=a.hasQ,query:=a.query,hasF:=false,frag:=[] }
end Go.Proofs.YtkldkhdigkpniaaGreatDoor
