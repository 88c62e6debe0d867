import Derived.Test.YtkldkhdigkpniaaGreatDoorZ6
import Derived.Test.YtkldkhdigkpniaaGreatDoorZ7
import Derived.Test.YtkldkhdigkpniaaGreatDoorZ11
import Derived.Lib.SplitLaws
import Derived.Lib.CutLaws
open Nat renaming zero_add → GL, le_trans → VQ, lt_of_lt_of_le → Ws, le_refl → Xu
open Go.World renaming block_lt_of_cell? → ZV
namespace Go.Proofs.YtkldkhdigkpniaaGreatDoor
open Go.RowKit Go.Proofs.Tryz
def okB(f:PB):Bool:=iK (trimS f.2)
def iA(s:aa):Except Nat (List PB×aa):=
 match dm (hl s).1 0 []with
 | .error _=>.error 3
 | .ok M=>if M.all okB then .ok (M.map fun f=>(f.1,trimS f.2),(hl s).2) else .error 1
def eX(L:List PB)(body:aa):Except Nat (aa):=
 match vg L xH with
 | none=>.ok body
 | some f=>if ah f.2=KN\/ah f.2=Xm\/ah f.2=WQ then .ok body else if ah f.2=D8 then kQ 3 (Tx.unpackS body) else if ah f.2=qpN then kQ 3 (Tx.unquoteS body) else .error 5
def bU:Nat->Nat->aa->Except Nat (PT×Nat)
 | 0,_,_=>.error 4
 | d+1,n,s=>if 40<=n then .error 4 else match iA s with
  | .error e=>.error e
  | .ok h=>match aS h.1 with
   | .error e=>.error e
   | .ok none=>match eX h.1 h.2 with
    | .error e=>.error e
    | .ok b=>.ok (.mk h.1 b false [],n+1)
   | .ok (some b)=>match dV b h.2 with
    | none=>.error 3
    | some xs=>match dA (bU d) xs (n+1)with
     | .error e=>.error e
     | .ok r=>.ok (.mk h.1 [] true r.1,r.2)
theorem qj:∀l:aa,(Lib.index l [13,10]=-1->bK l=[l])/\(∀i:Nat,Lib.index l [13,10]=i->bK l=l.take i::bK (l.drop (i+2)))
 | []=>⟨fun _=>rfl,fun i h=>by simp[Lib.index]at h⟩
 | [c]=>by
  have e:Lib.index [c] [13,10]=-1:=by simp[Lib.index,List.isPrefixOf]
  exact⟨fun _=>rfl,fun i h=>by rw[e]at h;omega⟩
 | c::d::t=>by
  have ih:=qj (d::t)
  have hpre:([13,10]:aa).isPrefixOf (c::d::t)=(decide (c=13/\d=10)):=by
   rw[Bool.eq_iff_iff]
   simp only[List.isPrefixOf,Bool.and_eq_true,beq_iff_eq,Bool.and_true,decide_eq_true_eq]
   constructor
   ·rintro⟨rfl,rfl⟩;exact⟨rfl,rfl⟩
   ·rintro⟨rfl,rfl⟩;exact⟨rfl,rfl⟩
  have hI:Lib.index (c::d::t) [13,10]=if c=13/\d=10 then 0 else if Lib.index (d::t) [13,10]==-1 then -1 else Lib.index (d::t) [13,10]+1:=by
   rw[Lib.index,hpre]
   simp only[decide_eq_true_eq]
  have hS:bK (c::d::t)=if c=13/\d=10 then []::bK t else nP c (bK (d::t)):=rfl
  by_cases h:c=13/\d=10
  ·rw[if_pos h]at hI hS
   refine⟨fun h'=>by rw[hI]at h';omega,fun i hi=>?_⟩
   have:i=0:=by rw[hI]at hi;omega
   subst this
   rw[hS];rfl
  ·rw[if_neg h]at hI hS
   rcases Lib.index_spec (d::t) [13,10]with⟨h1,_⟩|⟨j,h1,_⟩
   ·rw[h1]at hI
    refine⟨fun _=>by rw[hS,ih.1 h1];rfl,fun i hi=>by rw[hI]at hi;simp at hi⟩
   ·rw[h1]at hI
    have hne:((j:Int)==-1)=false:=by rw[beq_eq_false_iff_ne];omega
    rw[hne]at hI
    simp only[Bool.false_eq_true,if_false]at hI
    refine⟨fun h'=>by rw[hI]at h';omega,fun i hi=>?_⟩
    have:i=j+1:=by rw[hI]at hi;omega
    subst this
    rw[hS,ih.2 j h1]
    rfl
theorem oq:∀(f:Nat) (s:ByteArray),s.size<f->(Lib.splitB ⟨#[13,10]⟩ 0 (Lib.countB s ⟨#[13,10]⟩) s).map lst=bK s.data.toList
 | 0,s,h=>by omega
 | f+1,s,h=>by
  rcases Lib.indexB_cases s ⟨#[13,10]⟩with hix|⟨i,hix,hroom⟩
  ·rw[Lib.splitB_miss _ _ _ _ hix,(qj _).1 hix]
   rfl
  ·have hcount:=Lib.countB_hit s ⟨#[13,10]⟩ i (by decide) hix
   have h2:(ByteArray.mk #[13,10]).size=2:=rfl
   rw[hcount,Nat.add_comm,Lib.splitB_hit _ _ _ _ i hix,(qj _).2 i hix]
   rw[h2]at hroom ⊢
   have hs2:(s.extract (i+2) s.size).size=s.size - (i+2):=by rw[ByteArray.size_extract];omega
   have ih:=oq f (s.extract (i+2) s.size) (by omega)
   rw[List.map_cons,ih]
   unfold lst
   rw[aB,aB]
   simp only[Nat.add_zero,Nat.sub_zero,List.drop_zero]
   rw[List.take_of_length_le (i:=s.size - (i+2)) (by rw[List.length_drop,ae];omega)]
theorem EG(b:aa):∀(ls:List (aa)) (cur cur':List (aa)),uY b ls false cur=uY b ls false cur'
 | [],_,_=>rfl
 | x::r,cur,cur'=>by
  unfold uY
  cases ky b x with
  | none=>exact EG b r _ _
  | some q=>cases q<;>rfl
theorem yM:∀xs:List (aa),fK xs=Lib.join xs [13,10]
 | []=>rfl
 | [x]=>by rw[Lib.join_cons];simp[Lib.joinTail,fK]
 | x::y::r=>by
  rw[Lib.join_cons,fK,yM (y::r),Lib.join_cons]
  simp[Lib.joinTail]
theorem aO{a b c:World}{r:Option Nat}(h:a.grownBy b r)(k:b.grownBy c r):a.grownBy c r:=
 ⟨k.os.trans h.os,k.tape.trans h.tape,k.output.trans h.output,VQ h.size k.size,fun i hi hr=>(k.block i (Ws hi h.size) hr).trans (h.block i hi hr)⟩
theorem ak{w w':World}(h:Below w.heap.size w w')(r:Option Nat):w.grownBy w' r:=⟨h.os,h.tape,h.output,h.size,fun i hi _=>h.block i hi⟩
theorem iX{w w':World}{b B:Nat}(h:w.grownBy w' (some b))(hB:B<=b)(hb:b<w.heap.size):Below B w w':=⟨h.os,h.tape,h.output,h.size,fun i hi=>h.block i (by omega) (by simp;omega)⟩
theorem iT(w:World)(b k:Nat)(v:Value):w.grownBy (w.setCell ⟨b,k,none⟩ v) (some b):=
 ⟨rfl,rfl,rfl,by simp,fun k' _ hk=>heap_setCell_other w ⟨b,k,none⟩ k' v (fun e=>hk (by rw[e]))⟩
structure CI(w:World)(b n:Nat):Prop where
 c:w.cell? ⟨b,0,none⟩=some (.int .i64 n)
 f:w.frozen? ⟨b,0,none⟩=false
 lt:b<w.heap.size
theorem CI.below{w w':World}{b n B:Nat}(h:CI w b n)(hb:Below B w w')(hB:b<B):CI w' b n:=⟨(hb.cell (p:=⟨b,0,none⟩) hB).trans h.c,(hb.frozen (p:=⟨b,0,none⟩) hB).trans h.f,Ws h.lt hb.size⟩
theorem CI.set{w:World}{b n:Nat}(h:CI w b n)(m:Nat):CI (w.setCell ⟨b,0,none⟩ (.int .i64 m)) b m:=by
 refine⟨?_,?_,by simpa using h.lt⟩
 ·simp[World.cell?_setCell_same,h.c]
 ·rw[World.frozen?_setCell];exact h.f
def uW(L:List Fl):Prop:=L.length<=100000/\∀f∈L,f.1.size<=100000/\f.2.size<=100000
theorem uW.tiny{L:List Fl}(h:uW L):lW L:=⟨h.1,fun f hf=>⟨VQ (h.2 f hf).1 (by decide),VQ (h.2 f hf).2 (by decide)⟩⟩
def FLB(w:World)(S:Nat->Prop)(v:Value)(L:List Fl):Prop:=∃A cap,v=.slice A L.length cap/\L.length<=cap/\∀k (hk:k<L.length),∃b off,A=some ⟨b,off,none⟩/\S b/\w.cell? ⟨b,off+k*2,none⟩=some (.string L[k].1)/\w.cell? ⟨b,off+k*2+1,none⟩=some (.string L[k].2)
theorem FLB.fl{w:World}{S:Nat->Prop}{v:Value}{L:List Fl}(h:FLB w S v L):FL w v L:=by
 obtain⟨A,cap,rfl,hc,h1⟩:=h
 exact⟨A,cap,rfl,hc,fun k hk=>by obtain⟨b,off,e,_,c1,c2⟩:=h1 k hk;exact⟨b,off,e,c1,c2⟩⟩
theorem bJ.flb{w:World}{B:Nat}{v:Value}{L:List Fl}(h:bJ w B v L):FLB w (fun i=>B<=i) v L:=by
 rcases h.shape with⟨rfl,rfl⟩|⟨g,cap,rfl,hg,_,hc⟩
 ·exact⟨none,0,rfl,Xu _,fun k hk=>absurd hk (by simp)⟩
 ·refine⟨_,_,rfl,hc,fun k hk=>⟨g,0,rfl,hg,?_,?_⟩⟩
  ·rw[GL];exact(h.cell k hk).1
  ·rw[GL];exact(h.cell k hk).2.1
def Abv(S:Nat->Prop)(w w':World):Prop:=∀i,S i->i<w.heap.size->w'.heap[i]?=w.heap[i]?
theorem Abv.cell{S:Nat->Prop}{w w':World}(h:Abv S w w'){p:Addr}{v:Value}(hp:S p.block)(hc:w.cell? p=some v):w'.cell? p=some v:=
 (World.cell?_of_block (h p.block hp (ZV w _ hc))).trans hc
theorem dM{S:Nat->Prop}{w w':World}(h:Below w.heap.size w w'):Abv S w w':=fun i _ hi=>h.block i hi
theorem nQ{S:Nat->Prop}{r:Option Nat}{w w':World}(h:w.grownBy w' r)(hb:∀i,S i->some i≠r):Abv S w w':=fun i hS hi=>h.block i hi (hb i hS)
theorem FLB.abv{w w':World}{S:Nat->Prop}{v:Value}{L:List Fl}(h:FLB w S v L)(ha:Abv S w w'):FLB w' S v L:=by
 obtain⟨A,cap,rfl,hc,h1⟩:=h
 refine⟨A,cap,rfl,hc,fun k hk=>?_⟩
 obtain⟨b,off,e,hb,c1,c2⟩:=h1 k hk
 exact⟨b,off,e,hb,ha.cell hb c1,ha.cell hb c2⟩
theorem FLB.mono{w:World}{S T:Nat->Prop}{v:Value}{L:List Fl}(h:FLB w S v L)(hS:∀i,i<w.heap.size->S i->T i):FLB w T v L:=by
 obtain⟨A,cap,rfl,hc,h1⟩:=h
 refine⟨A,cap,rfl,hc,fun k hk=>?_⟩
 obtain⟨b,off,e,hb,c1,c2⟩:=h1 k hk
 exact⟨b,off,e,hS b (ZV w _ c1) hb,c1,c2⟩
abbrev P4:=Value×Value×Value×Value
def P4.v(p:P4):Value:=.agg #[p.1,p.2.1,p.2.2.1,p.2.2.2]
def PC(w:World)(S:Nat->Prop)(A:Option Addr)(k:Nat)(p:P4):Prop:=∃b off,A=some ⟨b,off,none⟩/\S b/\w.cell? ⟨b,off+k*4,none⟩=some p.1/\w.cell? ⟨b,off+k*4+1,none⟩=some p.2.1/\w.cell? ⟨b,off+k*4+2,none⟩=some p.2.2.1/\w.cell? ⟨b,off+k*4+3,none⟩=some p.2.2.2
theorem PC.abv{w w':World}{S:Nat->Prop}{k:Nat}{A:Option Addr}{p:P4}(h:PC w S A k p)(ha:Abv S w w'):PC w' S A k p:=by
 obtain⟨b,off,e,hb,c0,c1,c2,c3⟩:=h
 exact⟨b,off,e,hb,ha.cell hb c0,ha.cell hb c1,ha.cell hb c2,ha.cell hb c3⟩
theorem PC.mono{w:World}{S T:Nat->Prop}{k:Nat}{A:Option Addr}{p:P4}(h:PC w S A k p)(hS:∀i,i<w.heap.size->S i->T i):PC w T A k p:=by
 obtain⟨b,off,e,hb,c0,c⟩:=h
 exact⟨b,off,e,hS b (ZV w _ c0) hb,c0,c⟩
def PV(w:World)(S:Nat->Prop):Nat->P4->PT->Prop
 | 0,_,_=>False
 | d+1,v,.mk L b many ps=>∃A cap bb lh,v.2.1=.string bb/\v.2.2.1=.bool many/\v.2.2.2=.slice A ps.length cap/\FLB w S v.1 lh/\lh.map fl2=L/\uW lh/\bb.data.toList=b/\ps.length<=cap/\ps.length<=100001/\∀k (hk:k<ps.length),∃q,PC w S A k q/\PV w S d q ps[k]
theorem PV.abv{w w':World}{S:Nat->Prop}(ha:Abv S w w'):∀(d:Nat) (v:P4) (p:PT),PV w S d v p->PV w' S d v p
 | 0,_,_,h=>h.elim
 | d+1,v,.mk L b many ps,h=>by
  obtain⟨A,cap,bb,lh,h1,h2,h3,h4,h5,h6,h7,h9,h10,h11⟩:=h
  refine⟨A,cap,bb,lh,h1,h2,h3,h4.abv ha,h5,h6,h7,h9,h10,fun k hk=>?_⟩
  obtain⟨q,hc,hq⟩:=h11 k hk
  exact⟨q,hc.abv ha,PV.abv ha d q _ hq⟩
theorem PV.mono{w:World}{S T:Nat->Prop}(hS:∀i,i<w.heap.size->S i->T i):∀(d:Nat) (v:P4) (p:PT),PV w S d v p->PV w T d v p
 | 0,_,_,h=>h.elim
 | d+1,v,.mk L b many ps,h=>by
  obtain⟨A,cap,bb,lh,h1,h2,h3,h4,h5,h6,h7,h9,h10,h11⟩:=h
  refine⟨A,cap,bb,lh,h1,h2,h3,h4.mono hS,h5,h6,h7,h9,h10,fun k hk=>?_⟩
  obtain⟨q,hc,hq⟩:=h11 k hk
  exact⟨q,hc.mono hS,PV.mono hS d q _ hq⟩
def dW(L:List P4):List Value:=L.flatMap fun p=>[p.1,p.2.1,p.2.2.1,p.2.2.2]
theorem vC(L M:List P4):dW (L++M)=dW L++dW M:=by simp[dW]
theorem DL(L:List P4):∀(k:Nat) (hk:k<L.length),(dW L)[k*4]?=some L[k].1/\(dW L)[k*4+1]?=some L[k].2.1/\(dW L)[k*4+2]?=some L[k].2.2.1/\(dW L)[k*4+3]?=some L[k].2.2.2:=by
 induction L with
 | nil=>intro k hk;exact absurd hk (by simp)
 | cons a L ih=>
  intro k hk
  have e:dW (a::L)=[a.1,a.2.1,a.2.2.1,a.2.2.2]++dW L:=rfl
  rw[e]
  cases k with
  | zero=>exact⟨rfl,rfl,rfl,rfl⟩
  | succ k=>
   have:=ih k (by simpa using hk)
   have hs:∀j,([a.1,a.2.1,a.2.2.1,a.2.2.2]++dW L)[(k+1)*4+j]?=(dW L)[k*4+j]?:=by
    intro j
    rw[List.getElem?_append_right (by simp;omega)]
    congr 1
    simp;omega
   exact⟨(hs 0).trans this.1,(hs 1).trans this.2.1,(hs 2).trans this.2.2.1,(hs 3).trans this.2.2.2⟩
def fD(w:World)(B:Nat)(v:Value)(L:List P4):Prop:=w.ownsRow B 92 4 v L.length (dW L)
theorem Tryz.infoPart:(prog.info? 92).map (fun i=>(i.zero,i.size,i.bytes))=some (some (.agg #[.slice none 0 0,.string ⟨#[]⟩,.bool false,.slice none 0 0]),4,72):=by kernel_rfl
theorem fD.nil(w:World)(B:Nat):fD w B (.slice none 0 0) []:=World.ownsRow_nil _ _ _ _
theorem fD.abv{w w':World}{B:Nat}{v:Value}{L:List P4}(h:fD w B v L)(ha:Abv (fun i=>B<=i) w w'):fD w' B v L:=by
 obtain⟨h1,h2⟩:=h
 refine⟨h1,?_⟩
 rcases h2 with h2|⟨g,cap,cur,a,b,c,d⟩
 ·exact .inl h2
 ·refine .inr ⟨g,cap,cur,a,b,?_,d⟩
  rw[ha g b (Array.getElem?_eq_some_iff.1 c).1]
  exact c
theorem fD.shape{w:World}{B:Nat}{v:Value}{L:List P4}(h:fD w B v L):
  (v=.slice none 0 0/\L=[])\/∃g cap,v=.slice (some ⟨g,0,none⟩) L.length cap/\B<=g/\g<w.heap.size/\L.length<=cap:=by
 rcases h.2 with⟨a,b⟩|⟨g,cap,cur,a,b,c,d,e,_⟩
 ·exact .inl ⟨a,List.eq_nil_of_length_eq_zero b⟩
 ·exact .inr ⟨g,cap,a,b,(Array.getElem?_eq_some_iff.1 c).1,d⟩
theorem fD.pc{w:World}{B:Nat}{v:Value}{L:List P4}(h:fD w B v L):∃A cap,v=.slice A L.length cap/\L.length<=cap/\∀k (hk:k<L.length),PC w (fun i=>some i=v.ownBlock) A k L[k]:=by
 rcases h.shape with⟨rfl,rfl⟩|⟨g,cap,rfl,hg,_,hc⟩
 ·exact⟨none,0,rfl,Xu _,fun k hk=>absurd hk (by simp)⟩
 ·refine⟨_,cap,rfl,hc,fun k hk=>⟨g,0,rfl,rfl,?_⟩⟩
  have h':w.ownsRow B 92 4 (.slice (some ⟨g,0,none⟩) L.length cap) L.length (dW L):=h
  have hp:=DL L k hk
  simp only[GL]
  exact⟨(World.ownsRow.cellAt h' (k*4) (by omega)).trans hp.1,(World.ownsRow.cellAt h' (k*4+1) (by omega)).trans hp.2.1,(World.ownsRow.cellAt h' (k*4+2) (by omega)).trans hp.2.2.1,(World.ownsRow.cellAt h' (k*4+3) (by omega)).trans hp.2.2.2⟩
theorem qJ{P:Program}(w:World)(base:Nat)(t ty e:TypeId)(i:TypeInfo)(z:Value)(size bytes:Nat)(ht:P.underlying t=some (.slice e))(hi:P.info? e=some i)(hz:i.zero=some z)
  (hsize:i.size=size) (hby:i.bytes=bytes)
  (v:Value) (n:Nat) (xs:List Value) (hown:w.ownsRow base e size v n xs)
  (a:Addr) (m c:Nat) (news:List Value) (hl:news.length=m*size) (hnews:∀j u,news[j]?=some u->w.cell? (a.add j)=some u) (h1:∀u∈news,u.oneCell'=true) (hm:0<m)
  (h63:n+m<=maxLen) (hbytes:(n+m)*bytes<=140737488355328) (v':Value) (w':World) (hr:(Builtin.append_ #[t,t] ty #[v,.slice (some a) m c]).run P w=.ok v' w'):v'.ownBlock=v.ownBlock\/v'.ownBlock=some w.heap.size:=by
 subst hsize
 subst hby
 have hsmall:n+m<=9223372036854775807:=by simp only[maxLen]at h63;omega
 rcases hown.2 with⟨rfl,rfl⟩|⟨g,cap,cur,rfl,hbg,hg,hnc,hcm,hcs,htake⟩
 ·have h2:=run_append_nil (P:=P) w t ty e i z ht hi hz a m c news hl hnews (by omega) (by omega) (by have hb:=hbytes;simp only[GL]at hb;omega)
  rw[h2]at hr
  injection hr with e1 e2
  rw[<-e1]
  exact .inr rfl
 ·by_cases hroom:n+m<=cap
  ·have hfit:n*i.size+news.length<=cur.size:=by rw[hl,hcs,<-Nat.add_mul];exact Nat.mul_le_mul_right _ hroom
   have h2:=run_append_room (P:=P) w t ty e i ht hi g n cap cur hg a m c news hl hnews h1 hroom hfit
   rw[h2]at hr
   injection hr with e1 e2
   rw[<-e1]
   exact .inl rfl
  ·have holds:∀j u,xs[j]?=some u->w.cell? ((⟨g,0,none⟩:Addr).add j)=some u:=hown.cells (g:=g) rfl
   have h2:=run_append_grow (P:=P) w t ty e i z ht hi hz ⟨g,0,none⟩ n cap xs hown.1 holds a m c news hl hnews (by omega) (by omega) (growslice_fits (by omega) hbytes)
   rw[h2]at hr
   injection hr with e1 e2
   rw[<-e1]
   exact .inr rfl
theorem Wn{ops:Array Oper}{rest:List Oper}{o:Oper}{a:Act}{Q:Exit->Act->World->Prop}(W:World)(hgd:o.guard=none)(s x:Operand)(ho:o.op=.call { callee:=.builtin .append,args:=#[s,x],argTypes:=#[87,87] })
  (B:Nat) (v:Value) (L:List P4) (hs:a.eval s=v) (hown:fD W B v L) (b c:Nat) (p:P4) (hx:a.eval x=.slice (some ⟨b,0,none⟩) 1 c) (h0:W.cell? ⟨b,0,none⟩=some p.1) (h1:W.cell? ⟨b,1,none⟩=some p.2.1) (h2:W.cell? ⟨b,2,none⟩=some p.2.2.1) (h3:W.cell? ⟨b,3,none⟩=some p.2.2.2)
  (hc:p.1.oneCell'=true/\p.2.1.oneCell'=true/\p.2.2.1.oneCell'=true/\p.2.2.2.oneCell'=true) (hl:L.length+1<=1000000) (hB:B<=W.heap.size)
  (h:∀v' w',fD w' B v' (L++[p])->W.grownBy w' v.ownBlock->(v'.ownBlock=v.ownBlock\/v'.ownBlock=some W.heap.size)->wpList prog ops Q rest (a.put o.dst v') w'):wpList prog ops Q (o::rest) a W:=by
 refine wpList_plain hgd fun _ hK=>?_
 obtain⟨i0,hi,hz0,hz1,hz2⟩:=info_parts Tryz.infoPart
 have hne:∀j u,(dW [p])[j]?=some u->W.cell? ((⟨b,0,none⟩:Addr).add j)=some u:=by
  intro j u hj
  have hjl:j<4:=(List.getElem?_eq_some_iff.1 hj).1
  rw[Addr.add_lit,GL]
  match j,hjl,hj with
  | 0,_,hj=>rw[h0];exact hj
  | 1,_,hj=>rw[h1];exact hj
  | 2,_,hj=>rw[h2];exact hj
  | 3,_,hj=>rw[h3];exact hj
 have hone:∀u∈dW [p],u.oneCell'=true:=by
  intro u hu
  have:u=p.1\/u=p.2.1\/u=p.2.2.1\/u=p.2.2.2:=by simpa[dW]using hu
  rcases this with rfl|rfl|rfl|rfl
  ·exact hc.1
  ·exact hc.2.1
  ·exact hc.2.2.1
  ·exact hc.2.2.2
 obtain⟨v',w',hr,k2,k3,_⟩:=run_append_own (P:=prog) W B 87 o.type 92 i0 (.agg #[.slice none 0 0,.string ⟨#[]⟩,.bool false,.slice none 0 0]) 4 72 underlying87 hi hz0 hz1 hz2 rfl (by decide) v L.length (dW L) hown ⟨b,0,none⟩ 1 c (dW [p]) rfl hne hone (by unfold maxLen;omega) (by omega) hB
 have hblk:=qJ W B 87 o.type 92 i0 (.agg #[.slice none 0 0,.string ⟨#[]⟩,.bool false,.slice none 0 0]) 4 72 underlying87 hi hz0 hz1 hz2 v L.length (dW L) hown ⟨b,0,none⟩ 1 c (dW [p]) rfl hne hone (by decide) (by unfold maxLen;omega) (by omega) v' w' hr
 unfold Oper.wp execOp
 simp only[ho,resolve,invoke,builtin,Sem.run_bind,Sem.run_pure,Result.andThen_ok,List.map_toArray,List.map_cons,List.map_nil,hs,hx,hr]
 refine hK _ _ (h v' w' ?_ k3 hblk)
 unfold fD
 rw[List.length_append,vC]
 exact k2
end Go.Proofs.YtkldkhdigkpniaaGreatDoor
