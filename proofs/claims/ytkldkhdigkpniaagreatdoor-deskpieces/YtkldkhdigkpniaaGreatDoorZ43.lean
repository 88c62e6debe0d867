import Derived.Lib.FieldsP
import Derived.Lib.ParseIntB
import Derived.Test.YtkldkhdigkpniaaGreatDoorZQ5
import Derived.WalkLawsBesides
import Derived.Deep.RegionLaw
set_option maxHeartbeats 2000000
set_option maxRecDepth 100000
open List renaming isSuffixOf_iff_suffix → GL, length_append → VQ, map_cons → Ws, getElem?_eq_some_iff → Xu, length_cons → ZV, cons_append → ZW, length_take → ZX, getElem?_eq_getElem → ZY, length_eq_one_iff → ZZ, eq_nil_of_length_eq_zero → Z0
open Nat renaming le_trans → Z4, le_of_lt → Z5, zero_le → Z6, le_refl → Z7, zero_add → Z8
open ByteArray renaming data_append → Z9
open Array renaming toList_append → aaa
namespace Go.Proofs.YtkldkhdigkpniaaGreatDoor
open Go.RowKit Go.Proofs.Tryz
def eG:aa->List (aa)
 | []=>[[]]
 | c::r=>if c=10 then []::eG r else match eG r with
  | []=>[[c]]
  | x::xs=>(c::x)::xs
def pq(s:aa):List (aa):=eG (Lib.trimSuffix s [10])
def ug(s:aa):List (aa):=(Lib.goFieldsP (fun r=>r==32) ⟨s.toArray⟩).map fun x=>x.data.toList
def uV(n:Nat):UInt8:=if n<10 then UInt8.ofNat (48+n) else UInt8.ofNat (87+n)
def lY(c:UInt8):aa:=if 33<=c.toNat/\c.toNat<=126/\c.toNat≠37 then [c] else [37,uV (c.toNat / 16),uV (c.toNat % 16)]
def ed(s:aa):aa:=34::(s.flatMap lY++[34])
def dL(ws:List (aa)):aa:=Lib.join ws [32]
def iq(word:aa)(xs:List (aa)):aa:=(word++[32])++Lib.join xs [44,32]
def nE(c:Nat):aa:=[101,114,114,111,114,32]++Lib.decDigits c
def kC(w:aa):Option Int:=match Lib.parseIntB 64 w with
 | .ok n=>if Lib.itoa n=w then some n else none
 | _=>none
structure Dk where
 added:aa
 bd:Option BB
abbrev eU:=Except Nat (aa)
def isW(l:aa):aa:=[105,115,32]++l
def dQ(w:aa)(f:AB->eU):eU:=match bM w with
 | none=>.error 3
 | some a=>f a
def dR(σ:Dk)(f:BB->eU):eU:=match σ.bd with
 | none=>.error 7
 | some b=>f b
def rT(ws:List (aa))(r:eU):eU:=match ws with
 | []=>r
 | _=>.error 3
def nC(ws:List (aa))(f:aa->eU):eU:=match ws with
 | [a]=>f a
 | _=>.error 3
def tZ(ws:List (aa))(f:aa->aa->eU):eU:=match ws with
 | [a,b]=>f a b
 | _=>.error 3
def nO:Option Nat->Int
 | some i=>(i:Int)
 | none=>-1
def fE(b:BB)(i:Int):Option BP:=if 0<=i then b.ps[i.toNat]? else none
def lN(w:aa)(f:Int->eU):eU:=match kC w with
 | none=>.error 3
 | some i=>f i
def F4(o:Option (aa)):eU:=match o with
 | none=>.error 3
 | some b=>.ok (ed b)
noncomputable def BO(xs:List (aa)):Nat:=Classical.epsilon fun k=>fw xs k=false/\∀j,fw xs j=false->k<=j
theorem RF{xs:List (aa)}{k:Nat}(h1:fw xs k=false)(h2:∀j,fw xs j=false->k<=j):BO xs=k:=by
 have h:=Classical.epsilon_spec (p:=fun k=>fw xs k=false/\∀j,fw xs j=false->k<=j) ⟨k,h1,h2⟩
 exact Nat.le_antisymm (h.2 k h1) (h2 _ h.1)
noncomputable def oL(b:BB):eU:=match sw (dY 4 0 (nu b (BO (lq b))))with
 | .error c=>.error c
 | .ok t=>.ok (ed t)
def DU:aa:=[97,100,100]
def wAt:aa:=[97,116]
def OB:aa:=[98,105,110,100]
def OU:aa:=[100,111,116,115]
def Oh:aa:=[102,105,110,100]
def OW:aa:=[104,101,108,112]
def OT:aa:=[107,105,110,100]
def O7:aa:=[108,101,97,100]
def tu:aa:=[108,105,110,107,115]
def JY:aa:=[111,112,101,110]
def F7:aa:=[112,97,99,107]
def oZ:aa:=[112,97,114,116,115]
def Hf:aa:=[113,117,111,116,101]
def qo:aa:=[114,101,115,111,108,118,101]
def AZ:aa:=[117,110,112,97,99,107]
def xJ:aa:=[117,110,113,117,111,116,101]
def DK:aa:=[108,101,97,100,115]
def X7:aa:=[97,100,100,32,97,116,32,98,105,110,100,32,100,111,116,115,32,102,105,110,100,32,104,101,108,112,32,107,105,110,100,32,108,101,97,100,32,108,105,110,107,115,32,111,112,101,110,32,112,97,99,107,32,112,97,114,116,115,32,113,117,111,116,101,32,114,101,115,111,108,118,101,32,117,110,112,97,99,107,32,117,110,113,117,111,116,101]
def vD(q:Nat×Nat×aa):aa:=Lib.decDigits q.1++[32]++Lib.decDigits q.2.1++[32]++ed q.2.2
def oC(p:BP):aa:=Lib.decDigits p.head.length++[32]++ed p.body
def tL(l:aa×Option Nat):aa:=ed l.1++[32]++Lib.itoa (nO l.2)
noncomputable def nk(σ:Dk)(w:aa)(ws:List (aa)):Option (eU×Dk):=
 if w=DU then some (.ok DU,⟨σ.added++(dL ws++[13,10]),σ.bd⟩)
 else if w=wAt then some (nC ws fun a=>dR σ fun b=>lN a fun i=>match fE b i with|none=>.error 2|some p=>.ok (isW (bQ p.loc)),σ)
 else if w=OB then some (rT ws (dR σ oL),σ)
 else if w=OU then some (nC ws fun a=>.ok (isW (lS a)),σ)
 else if w=Oh then some (nC ws fun a=>dR σ fun b=>dQ a fun x=>.ok (Lib.itoa (nO (jU b.ps x))),σ)
 else if w=OW then some (rT ws (.ok X7),σ)
 else if w=OT then some (match eO (dL ws)with|none=>.error 3|some q=>.ok (eQ q.1 q.2),σ)
 else if w=O7 then some (nC ws fun a=>dR σ fun b=>lN a fun i=>match fE b i with|none=>.error 2|some p=>.ok (iq DK ((jD b.ps p).map tL)),σ)
 else if w=tu then some (.ok (iq tu ((aC 0 (nD (dL ws))).map vD)),σ)
 else if w=JY then (match ws with
  | []=>(match oF σ.added with
   | .error c=>some (.error c,⟨[],σ.bd⟩)
   | .ok b=>some (.ok (Lib.decDigits b.ps.length++[32]++Lib.decDigits b.root),⟨[],some b⟩))
  | _=>some (.error 3,σ))
 else if w=F7 then some (.ok (ed (Tx.packS (dL ws))),σ)
 else if w=oZ then some (rT ws (dR σ fun b=>.ok (iq oZ (b.ps.map oC))),σ)
 else if w=Hf then some (.ok (ed (Tx.quoteS (dL ws))),σ)
 else if w=qo then some (tZ ws fun a b=>dQ a fun x=>dQ b fun y=>.ok (isW (bQ (jv x y))),σ)
 else if w=AZ then some (F4 (Tx.unpackS (dL ws)),σ)
 else if w=xJ then some (F4 (Tx.unquoteS (dL ws)),σ)
 else none
def Ur:eU->aa
 | .ok t=>t
 | .error c=>nE c
noncomputable def cu(σ:Dk)(line:aa):aa×Dk:=match ug line with
 | []=>([111,107],σ)
 | w::ws=>match nk σ w ws with
  | none=>(nE 3,σ)
  | some r=>(Ur r.1,r.2)
noncomputable def qG:Dk->List (aa)->aa
 | _,[]=>[]
 | σ,l::ls=>(cu σ l).1++10::qG (cu σ l).2 ls
noncomputable def qR:Dk->List (aa)->Dk
 | σ,[]=>σ
 | σ,l::ls=>qR (cu σ l).2 ls
def dk0:Dk:=⟨[],none⟩
noncomputable def rV(s:aa):aa:=if 20000<s.length then nE 4++[10] else qG dk0 (pq s)
theorem JW(σ:Dk)(ls ms:List (aa)):qG σ (ls++ms)=qG σ ls++qG (qR σ ls) ms:=by
 induction ls generalizing σ with
 | nil=>rfl
 | cons l ls ih=>
  rw[ZW,qG,qG,ih,qR]
  simp
theorem Rl(l:aa):eG l≠[]:=by
 cases l with
 | nil=>simp[eG]
 | cons c r=>
  unfold eG
  split
  ·simp
  ·split<;>simp
theorem Df(a b:aa):eG (a++10::b)=eG a++eG b:=by
 induction a with
 | nil=>simp[eG]
 | cons c a ih=>
  rw[ZW,eG,eG]
  by_cases hc:c=10
  ·rw[if_pos hc,if_pos hc,ih]
   rfl
  ·rw[if_neg hc,if_neg hc,ih]
   cases hs:eG a with
   | nil=>exact absurd hs (Rl a)
   | cons x xs=>rfl
theorem AU(a:aa):Lib.trimSuffix (a++[10]) [10]=a:=by
 unfold Lib.trimSuffix Lib.hasSuffix
 rw[if_pos (by rw[GL];exact List.suffix_append _ _)]
 simp
theorem Xv(a b:aa)(h:b≠[]):Lib.trimSuffix (a++10::b) [10]=a++10::Lib.trimSuffix b [10]:=by
 rcases List.eq_nil_or_concat b with rfl|⟨c,x,rfl⟩
 ·exact absurd rfl h
 ·rw[List.concat_eq_append]
  by_cases hx:x=10
  ·subst hx
   have e:a++10::(c++[10])=(a++10::c)++[10]:=by simp
   rw[e,AU,AU]
  ·have hn:∀l:aa,¬([10]<:+l++[x]):=by
    rintro l ⟨t,ht⟩
    have:=congrArg List.getLast? ht
    simp at this
    exact hx this.symm
   unfold Lib.trimSuffix Lib.hasSuffix
   have e:a++10::(c++[x])=(a++10::c)++[x]:=by simp
   rw[if_neg (by rw[GL,e];exact hn _),if_neg (by rw[GL];exact hn _)]
theorem KL(a b:aa)(h:(a++10::b).length<=20000):∃t,rV (a++10::b)=rV (a++[10])++t:=by
 have h1:(a++[10]).length<=20000:=by
  simp at h ⊢
  omega
 unfold rV
 rw[if_neg (by omega),if_neg (by omega)]
 unfold pq
 rw[AU]
 by_cases hb:b=[]
 ·subst hb
  rw[AU]
  exact⟨[],by simp⟩
 ·rw[Xv a b hb,Df,JW]
  exact⟨_,rfl⟩
def fO(ws:List (aa)):Nat:=(ws.map fun w=>w.length+1).sum
theorem gQ(w:aa)(ws:List (aa)):fO (w::ws)=w.length+1+fO ws:=by simp[fO]
theorem Fh(ws:List (aa)):(dL ws).length<=fO ws/\(ws≠[]->(dL ws).length+1<=fO ws):=by
 have key:∀ws:List (aa),ws≠[]->(dL ws).length+1<=fO ws:=by
  intro ws
  induction ws with
  | nil=>intro h;exact absurd rfl h
  | cons w ws ih=>
   intro _
   cases ws with
   | nil=>simp[dL,Lib.join,fO]
   | cons x xs=>
    have h1:=ih (by simp)
    have e:dL (w::x::xs)=w++[32]++dL (x::xs):=by
     unfold dL Lib.join
     simp[List.intercalate,List.intersperse]
    rw[e,gQ]
    simp only[VQ,List.length_singleton]
    omega
 refine⟨?_,key ws⟩
 cases ws with
 | nil=>simp[dL,Lib.join,fO]
 | cons w ws=>have:=key (w::ws) (by simp);omega
def Cu(acc:List (Nat×Nat)):Nat:=(acc.map fun x=>x.2 - x.1+1).sum
theorem za(acc:List (Nat×Nat))(a b:Nat):Cu (acc++[(a,b)])=Cu acc+(b - a+1):=by simp[Cu]
theorem pW(p:Nat->Bool)(s:ByteArray):∀(f pos:Nat) (st:Option Nat) (acc:List (Nat×Nat)),pos<=s.size->(st=none->Cu acc<=pos)->(∀a,st=some a->Cu acc<=a/\a<=pos)->Cu (Lib.closeSpans s (Lib.spansFromP p s f pos st acc))<=s.size+1
 | 0,pos,st,acc,hp,h1,h2=>by
  unfold Lib.spansFromP Lib.closeSpans
  cases st with
  | none=>have:=h1 rfl;simp only;omega
  | some a=>have:=h2 a rfl;simp only;rw[za];omega
 | f+1,pos,st,acc,hp,h1,h2=>by
  unfold Lib.spansFromP
  by_cases hlt:pos<s.size
  ·have hw:=Lib.width_pos s pos
   have hwl:pos+(Utf8.decode s pos).2<=s.size:=by
    have:=Lib.decodeN_le_n' (s.size - pos) (s.get! pos).toNat (s.get! (pos+1)).toNat (s.get! (pos+2)).toNat (s.get! (pos+3)).toNat (by omega)
    rw[Lib.decode_at]
    omega
   rw[if_pos hlt]
   by_cases hq:p (Utf8.decode s pos).1=true
   ·rw[if_pos hq]
    cases st with
    | some a=>
     have h3:=h2 a rfl
     simp only
     exact pW p s f _ none _ hwl (fun _=>by rw[za];omega) (fun b hb=>by cases hb)
    | none=>
     have h3:=h1 rfl
     simp only
     exact pW p s f _ none _ hwl (fun _=>by omega) (fun b hb=>by cases hb)
   ·rw[if_neg hq]
    cases st with
    | some a=>
     have h3:=h2 a rfl
     simp only
     exact pW p s f _ (some a) _ hwl (fun h=>by cases h) (fun b hb=>by cases hb;omega)
    | none=>
     have h3:=h1 rfl
     simp only
     exact pW p s f _ (some pos) _ hwl (fun h=>by cases h) (fun b hb=>by cases hb;omega)
  ·rw[if_neg hlt]
   unfold Lib.closeSpans
   cases st with
   | none=>have:=h1 rfl;simp only;omega
   | some a=>have:=h2 a rfl;simp only;rw[za];omega
theorem EQ(s:aa):fO (ug s)<=s.length+1:=by
 have h:=pW (fun r=>r==32) ⟨s.toArray⟩ (ByteArray.size ⟨s.toArray⟩) 0 none [] (Z6 _) (fun _=>Z7 _) (fun a h=>by cases h)
 have e:ByteArray.size ⟨s.toArray⟩=s.length:=by rw[<-ae]
 have h2:∀l:List (Nat×Nat),fO ((l.map fun x=>(⟨s.toArray⟩:ByteArray).extract x.1 x.2).map fun x=>x.data.toList)<=Cu l:=by
  intro l
  induction l with
  | nil=>simp[fO,Cu]
  | cons x l ih=>
   rw[Ws,Ws,gQ]
   have e2:Cu (x::l)=x.2 - x.1+1+Cu l:=by simp[Cu]
   have e3:((⟨s.toArray⟩:ByteArray).extract x.1 x.2).data.toList.length<=x.2 - x.1:=by
    rw[aB,ZX,List.length_drop]
    omega
   rw[e2]
   omega
 have h3:=h2 (Lib.spansOfP (fun r=>r==32) ⟨s.toArray⟩)
 unfold ug Lib.goFieldsP
 unfold Lib.spansOfP at h3 ⊢
 omega
end Go.Proofs.YtkldkhdigkpniaaGreatDoor
namespace Go.Proofs.YtkldkhdigkpniaaGreatDoor
open Go.RowKit Go.Proofs.Px Go.Proofs.Tryz
abbrev dP(c:Nat):Ending:=.panicked [{ v:=.iface 25 (.int .i64 (c:Int)),recovered:=false }]
theorem Mj(c:Nat)(w:World)(hc:c<=1000)(ht:Tab w):
  Calls prog 5 #[.int .i64 (c:Int)] w fun e w'=>∃t:ByteArray,e=.returned (.string t)/\t.data.toList=nE c/\Below w.heap.size w w':=by
 have HI:=Box.m (lF c w (by omega) ht)
 clear ht
 go_enter func5,ntmps5
 go_wp2_with fail
 refine HI.o.mono ?_
 rintro e w1 ⟨rfl,hb1⟩
 have hdl:(Lib.decDigits c).length<=10:=by
  rw[Lib.decDigits_length]
  exact fI 9 c (by omega)
 obtain⟨D,HD⟩:∃D:ByteArray,Box (D=⟨(Lib.decDigits c).toArray⟩):=⟨_,⟨rfl⟩⟩
 rw[<-HD.o]
 have hds:D.size<=10:=by rw[<-ae,HD.o];exact hdl
 clear HI hdl
 go_wp2
 go_ret
 exact⟨_,rfl,by rw[Z9,aaa,HD.o];rfl,hb1⟩
theorem iw(w:World):Calls prog 41 #[.nilIface] w fun e w'=>e=.returned (.tuple #[])/\w'=w:=by
 go_enter func41,ntmps41
 go_wp2
 exact⟨rfl,.tuple #[],by simp[results,results41,go_sem],rfl,rfl⟩
theorem jh(c:Nat)(w:World)(hg:uX w):Calls prog 41 #[.iface 25 (.int .i64 (c:Int))] w fun e w'=>e=dP c/\Below w.heap.size w w':=by
 have HT:=Box.m (LM (c:Int) w hg)
 clear hg
 go_enter func41,ntmps41
 go_wp2_with fail
 refine HT.o.mono ?_
 rintro e w1 ⟨rfl,hb1⟩
 clear HT
 go_wp2
 exact⟨rfl,rfl,hb1⟩
theorem jl(A:Option Addr)(n c:Nat)(w:World):Calls prog 37 #[.slice A n c,.int .i64 (n:Int)] w fun e w'=>e=.returned (.tuple #[])/\w'=w:=by
 go_enter func37,ntmps37
 go_wp2
 exact⟨rfl,.tuple #[],by simp[results,results37,go_sem],rfl,rfl⟩
theorem kD(A:Option Addr)(n c m:Nat)(w:World)(h:n≠m):Calls prog 37 #[.slice A n c,.int .i64 (m:Int)] w fun e w'=>e=dP 3/\w'=w:=by
 have h1:((n:Int)==(m:Int))=false:=beq_eq_false_iff_ne.2 (by omega)
 clear h
 go_enter func37,ntmps37
 go_wp2
 exact⟨rfl,rfl,rfl⟩
def R8(Xf:Nat->Prop)(v:Value):Prop:=∀A n c,v=.slice A n c->∀b off,A=some ⟨b,off,none⟩->0<n->¬Xf b
structure Off(Xf:Nat->Prop)(b:Nat)(hv:Value)(A:Option Addr)(ps:List XP):Prop where
 b0:¬Xf b
 hv:R8 Xf hv
 A0:∀g off,A=some ⟨g,off,none⟩->¬Xf g
 ps:∀p∈ps,R8 Xf p.hd
structure DS(Xf:Nat->Prop)(w:World)(d:Nat)(σ:Dk):Prop where
 blk:∃(t:ByteArray) (q:Option Addr),w.heap[d]?=some (.cells #[.string t,.pointer q] 28 (0,0))/\t.data.toList=σ.added/\(σ.bd=none->q=none)/\∀bb,σ.bd=some bb->∃(b:Nat) (hv:Value) (hl:List Fl) (A:Option Addr) (cap:Nat) (ps:List XP) (root:Nat),q=some ⟨b,0,none⟩/\BN w b hv hl A cap ps root/\bb=⟨hl.map fl2,ps.map XP.bp,root⟩/\xB bb/\Off Xf b hv A ps
theorem lV{w:World}{d:Nat}{t:ByteArray}{q:Option Addr}(h:w.heap[d]?=some (.cells #[.string t,.pointer q] 28 (0,0))):w.cell? ⟨d,0,none⟩=some (.string t)/\w.cell? ⟨d,1,none⟩=some (.pointer q)/\(∀i,w.frozen? ⟨d,i,none⟩=false)/\(∀i,w.cell? ⟨d,i+2,none⟩=none)/\d<w.heap.size:=
 ⟨by simp[World.cell?,h],by simp[World.cell?,h],fun i=>by simp[World.frozen?,h],fun i=>by simp[World.cell?,h],(Array.getElem?_eq_some_iff.1 h).1⟩
theorem DS.no{Xf:Nat->Prop}{w:World}{d:Nat}{σ:Dk}(h:DS Xf w d σ)(hn:σ.bd=none):w.cell? ⟨d,1,none⟩=some (.pointer none):=by
 obtain⟨t,q,h1,_,h3,_⟩:=h.blk
 rw[(lV h1).2.1,h3 hn]
theorem DS.yes{Xf:Nat->Prop}{w:World}{d:Nat}{σ:Dk}(h:DS Xf w d σ)(bb:BB)(hb:σ.bd=some bb):∃(b:Nat) (hv:Value) (hl:List Fl) (A:Option Addr) (cap:Nat) (ps:List XP) (root:Nat),w.cell? ⟨d,1,none⟩=some (.pointer (some ⟨b,0,none⟩))/\BN w b hv hl A cap ps root/\bb=⟨hl.map fl2,ps.map XP.bp,root⟩/\xB bb/\Off Xf b hv A ps:=by
 obtain⟨t,q,h1,_,_,h4⟩:=h.blk
 obtain⟨b,hv,hl,A,cap,ps,root,e,h5,h6,h7⟩:=h4 bb hb
 exact⟨b,hv,hl,A,cap,ps,root,by rw[(lV h1).2.1,e],h5,h6,h7⟩
theorem DS.below{Xf:Nat->Prop}{w w':World}{d:Nat}{σ:Dk}(h:DS Xf w d σ)(hb:Below w.heap.size w w'):DS Xf w' d σ:=by
 obtain⟨t,q,h1,h2,h3,h4⟩:=h.blk
 refine⟨t,q,az hb h1,h2,h3,fun bb hbb=>?_⟩
 obtain⟨b,hv,hl,A,cap,ps,root,e,h5,h6,h7⟩:=h4 bb hbb
 exact⟨b,hv,hl,A,cap,ps,root,e,h5.below hb,h6,h7⟩
theorem FL.other{w w':World}{d:Nat}{t:ByteArray}{q:Option Addr}{v:Value}{L:List Fl}(h:FL w v L)(hd:w.heap[d]?=some (.cells #[.string t,.pointer q] 28 (0,0)))(hg:w.grownBy w' (some d)):FL w' v L:=by
 obtain⟨k0,k1,_,k2,_⟩:=lV hd
 obtain⟨A,cap,rfl,hc,h1⟩:=h
 refine⟨A,cap,rfl,hc,fun k hk=>?_⟩
 obtain⟨b,off,e,c0,c1⟩:=h1 k hk
 have hne:b≠d:=by
  rintro rfl
  match hm:off+k*2 with
  | 0=>rw[hm,Z8,k1]at c1;cases c1
  | 1=>rw[hm,k1]at c0;cases c0
  | n+2=>rw[hm,k2]at c0;cases c0
 have hr:(some d:Option Nat)≠some b:=fun e=>hne (Option.some.inj e).symm
 exact⟨b,off,e,aJ hg c0 hr,aJ hg c1 hr⟩
theorem BN.other{w w':World}{d b:Nat}{t:ByteArray}{q:Option Addr}{hv:Value}{hl:List Fl}{A:Option Addr}{cap:Nat}{ps:List XP}{root:Nat}(h:BN w b hv hl A cap ps root)(hd:w.heap[d]?=some (.cells #[.string t,.pointer q] 28 (0,0)))(hg:w.grownBy w' (some d)):BN w' b hv hl A cap ps root:=by
 obtain⟨k0,k1,_,k2,_⟩:=lV hd
 have noS:∀(o:Nat) (A:Option Addr) (n c:Nat),w.cell? ⟨d,o,none⟩≠some (.slice A n c):=by
  intro o A n c e
  match o with
  | 0=>rw[k0]at e;cases e
  | 1=>rw[k1]at e;cases e
  | o+2=>rw[k2]at e;cases e
 obtain⟨Ah,ch,rfl,_⟩:=_root_.id h.hf
 have hb:(some d:Option Nat)≠some b:=fun e=>by
  obtain rfl:=Option.some.inj e
  exact noS _ _ _ _ h.c0
 refine⟨aJ hg h.c0 hb,aJ hg h.c1 hb,aJ hg h.c2 hb,h.cap,h.hf.other hd hg,h.hs,⟨fun k hk=>?_,fun p hp=>?_,h.xl.len⟩,h.rt⟩
 ·obtain⟨g,off,e,x⟩:=h.xl.at_ k hk
  have hs:=h.xl.sm ps[k] (List.getElem_mem hk)
  obtain⟨Ap,cp,ep,_⟩:=_root_.id hs.fl
  have hx:(some d:Option Nat)≠some g:=fun e=>by
   obtain rfl:=Option.some.inj e
   have:=x.c0
   rw[ep]at this
   exact noS _ _ _ _ this
  exact⟨g,off,e,⟨aJ hg x.c0 hx,aJ hg x.c1 hx,aJ hg x.c2 hx,aJ hg x.c3 hx,aJ hg x.c4 hx,aJ hg x.c5 hx,aJ hg x.c6 hx,aJ hg x.c7 hx,aJ hg x.c8 hx,aJ hg x.c9 hx,aJ hg x.ca hx⟩⟩
 ·have hs:=h.xl.sm p hp
  exact⟨hs.fl.other hd hg,hs.hs,hs.bs,hs.is,hs.ad⟩
theorem nz{Xf:Nat->Prop}{w:World}{d:Nat}{σ:Dk}(h:DS Xf w d σ)(hn:σ.bd=none):Calls prog 38 #[.pointer (some ⟨d,0,none⟩)] w fun e w'=>e=dP 7/\w'=w:=by
 have c1:=h.no hn
 clear h hn
 go_enter func38,ntmps38
 go_wp2
 exact⟨rfl,rfl,rfl⟩
theorem lL{w:World}{d b:Nat}(c1:w.cell? ⟨d,1,none⟩=some (.pointer (some ⟨b,0,none⟩))):Calls prog 38 #[.pointer (some ⟨d,0,none⟩)] w fun e w'=>e=.returned (.pointer (some ⟨b,0,none⟩))/\w'=w:=by
 go_enter func38,ntmps38
 go_wp2
 go_ret
 exact⟨rfl,rfl⟩
theorem O0(v:Value)(xs:List ByteArray)(sep:ByteArray)(w:World)(hX:TL w v xs)(hl:xs.length<=1000000)(hj:(Lib.join (tls xs) sep.data.toList).length<=10000000000000):
  Calls prog 65 #[v,.string sep] w fun e w'=>∃t:ByteArray,e=.returned (.string t)/\t.data.toList=Lib.join (tls xs) sep.data.toList/\Below w.heap.size w w':=by
 obtain⟨A,cap,rfl,hc,hk⟩:=hX
 cases xs with
 | nil=>
  refine(Tryz.strings_Join_none A cap sep w).mono ?_
  rintro e w' ⟨rfl,rfl⟩
  exact⟨⟨#[]⟩,rfl,by simp[tls,Lib.join],Below.refl _ _⟩
 | cons x xs=>
  obtain⟨b,off,rfl,h0⟩:=hk 0 (by simp)
  refine(Tryz.strings_Join b off cap (x::xs) sep w (fun j y hy=>?_) (World.block_lt_of_cell? w _ h0) (by omega) hc (by unfold tls at hj;omega)).mono ?_
  ·have hj':=(Xu.1 hy).1
   obtain⟨b',off',e,h1⟩:=hk j hj'
   simp only[Option.some.injEq,Addr.mk.injEq,and_true]at e
   obtain⟨rfl,rfl⟩:=e
   rw[h1,(Xu.1 hy).2]
  ·rintro e w' ⟨rfl,hb⟩
   exact⟨_,rfl,rfl,hb⟩
theorem iY(v:Value)(xs:List ByteArray)(w:World)(hX:TL w v xs)(hl:xs.length<=1000000)(hj:(dL (tls xs)).length<=100000000):
  Calls prog 36 #[v] w fun e w'=>∃t:ByteArray,e=.returned (.string t)/\t.data.toList=dL (tls xs)/\Below w.heap.size w w':=by
 have HJ:=Box.m (O0 v xs ⟨#[32]⟩ w hX hl (Z4 hj (by decide)))
 obtain⟨A,cap,rfl,-⟩:=hX
 clear hj
 go_enter func36,ntmps36
 go_wp2_with fail
 refine HJ.o.mono ?_
 rintro e w1 ⟨t,rfl,ht,hb1⟩
 have HT:=Box.m ht
 clear HJ ht
 go_wp2
 go_ret
 exact⟨t,rfl,HT.o,hb1⟩
theorem uy(s:ByteArray)(v:Value)(xs:List ByteArray)(w:World)(hs:s.size<=1000)(hX:TL w v xs)(hl:xs.length<=1000000)(hj:(Lib.join (tls xs) [44,32]).length<=10000000000000):
  Calls prog 51 #[.string s,v] w fun e w'=>∃t:ByteArray,e=.returned (.string t)/\t.data.toList=iq s.data.toList (tls xs)/\Below w.heap.size w w':=by
 have HJ:=Box.m (O0 v xs ⟨#[44,32]⟩ w hX hl hj)
 obtain⟨A,cap,rfl,-⟩:=hX
 go_enter func51,ntmps51
 go_wp2_with fail
 refine HJ.o.mono ?_
 rintro e w1 ⟨t,rfl,ht,hb1⟩
 have hts:t.size<=10000000000000:=by rw[<-ae,ht];exact hj
 have HT:=Box.m ht
 have hz:¬9223372036854775807<s.size+1+t.size:=by omega
 clear HJ ht hj
 go_wp2
 go_ret
 refine⟨_,rfl,?_,hb1⟩
 rw[Z9,aaa,Z9,aaa,HT.o]
 rfl
theorem uS(n:Nat)(h:n<(ByteArray.mk #[48,49,50,51,52,53,54,55,56,57,97,98,99,100,101,102]).size):(ByteArray.mk #[48,49,50,51,52,53,54,55,56,57,97,98,99,100,101,102])[n]=uV n:=by
 have h':n<16:=h
 have key:∀i:Fin 16,(ByteArray.mk #[48,49,50,51,52,53,54,55,56,57,97,98,99,100,101,102])[i.val]'(i.isLt)=uV i.val:=by decide
 exact key ⟨n,h'⟩
theorem Zt(c:UInt8):bits BinOp.and IntKind.u8 (c.toNat:Int) 15=(c.toNat:Int) % 16:=by
 have key:∀n:Fin 256,bits BinOp.and IntKind.u8 (n.val:Int) 15=(n.val:Int) % 16:=by decide +kernel
 exact key ⟨c.toNat,c.toNat_lt⟩
theorem yD{ops:Array Oper}{o:Oper}{a:Act}{K:Act->World->Prop}{Q:Exit->Act->World->Prop}{E:Prop}(W:World)(hgd:o.guard=none)(s x:Operand)(ho:o.op=.call { callee:=.builtin .append,args:=#[s,x],argTypes:=#[32,32] })
  (B:Nat) (v:Value) (l:aa) (hs:a.eval s=v) (hown:Own W B v l) (b c:Nat) (n:aa) (hx:a.eval x=.slice (some ⟨b,0,none⟩) n.length c)
  (hc:∀j (hj:j<n.length),W.cell? ⟨b,j,none⟩=some (.int .u8 (n[j].toNat:Int))) (hl:l.length+n.length<=1000000000) (hB:B<=W.heap.size)
  (h:∀v' w',Own w' B v' (l++n)->W.grownBy w' v.ownBlock->K (a.put o.dst v') w'):if Region.wanted o (yielded ops a.tmps)=true then Oper.wp prog o a W K Q else E:=by
 have hw:Region.wanted o (yielded ops a.tmps)=true:=by simp[Region.wanted,hgd]
 rw[if_pos hw]
 obtain⟨i0,hi,hz0,hz1,hz2⟩:=info_parts Tryz.infoByte
 have hne:∀j u,(cs n)[j]?=some u->W.cell? ((⟨b,0,none⟩:Addr).add j)=some u:=by
  intro j u hj
  have hj':j<n.length:=by simpa[cs]using(Xu.1 hj).1
  rw[Addr.add_lit,Z8,hc j hj']
  simpa[cs,ZY hj']using hj
 obtain⟨v',w',hr,k2,k3,_⟩:=run_append_own (P:=prog) W B 32 o.type 5 i0 (.int .u8 0) 1 1 underlying32 hi hz0 hz1 hz2 rfl (by decide) v l.length (cs l) hown ⟨b,0,none⟩ n.length c (cs n) (by simp[cs]) hne (Dg n) (by unfold maxLen;omega) (by omega) hB
 unfold Oper.wp execOp
 simp only[ho,resolve,invoke,builtin,Sem.run_bind,Sem.run_pure,Result.andThen_ok,List.map_toArray,Ws,List.map_nil,hs,hx,hr]
 refine h v' w' ?_ k3
 unfold Own
 rw[VQ,mJ]
 exact k2
theorem He{w:World}{B:Nat}{v:Value}{l:aa}(h:Own w B v l):∃A n c,v=.slice A n c:=by
 rcases h.shape with⟨rfl,rfl⟩|⟨g,cap,rfl,_⟩
 ·exact⟨none,0,0,rfl⟩
 ·exact⟨_,_,_,rfl⟩
def dX(l:aa)(k:Nat):aa:=34::(l.take k).flatMap lY
theorem GM(l:aa)(k:Nat)(hk:k<l.length):dX l (k+1)=dX l k++lY l[k]:=by
 unfold dX
 rw[List.take_add_one,ZY hk,List.flatMap_append]
 simp
theorem CB(c:UInt8):(lY c).length<=3:=by unfold lY;split<;>simp
theorem Il(l:aa)(k:Nat):(dX l k).length<=3*k+1:=by
 unfold dX
 rw[ZV]
 have:∀m:aa,(m.flatMap lY).length<=3*m.length:=by
  intro m
  induction m with
  | nil=>simp
  | cons c m ih=>
   rw[List.flatMap_cons,VQ,ZV]
   have:=CB c
   omega
 have h:=this (l.take k)
 have:(l.take k).length<=k:=by rw[ZX];omega
 omega
theorem iR(s:ByteArray)(w:World)(hs:s.size<=10000000):
  Calls prog 44 #[.string s] w fun e w'=>∃t:ByteArray,e=.returned (.string t)/\t.data.toList=ed s.data.toList/\Below w.heap.size w w':=by
 have HL:=Box.m (ae s)
 go_enter func44,ntmps44
 go_wp2
 go_loopw [3,9] (fun v i wr=>∃k:Nat,k<=s.size/\i=.int .i64 k/\Box (Own wr w.heap.size v (dX s.data.toList k))/\Below w.heap.size w wr) (fun _ i _=>s.size - (intOf i).toNat)
 case atStart=>exact⟨0,Z6 _,rfl,⟨Own.lit _ _ [34] 1 rfl af (by decide)⟩,ag.alloc af _⟩
 case round=>
  obtain⟨k,hk,rfl,HO,hb⟩:=hrel
  have hsz:=hb.size
  have hlen:=Il s.data.toList k
  by_cases hlt:k<s.size
  ·have HX:Box (dX s.data.toList (k+1)=dX s.data.toList k++lY s[k]):=⟨GM s.data.toList k (by rw[HL.o];exact hlt)⟩
   have hc256:(s[k].toNat:Int)<256:=by have:=s[k].toNat_lt;omega
   have i1:0<=(s[k].toNat:Int) / 16:=by omega
   have i2:(s[k].toNat:Int) / 16<16:=by omega
   have i3:0<=(s[k].toNat:Int) % 16:=by omega
   have i4:(s[k].toNat:Int) % 16<16:=by omega
   have k7:(k:Int)<(s.size:Int):=by omega
   have k8:(0:Int)<=(k:Int):=by omega
   have hb15:=Zt s[k]
   by_cases h1:33<=s[k].toNat
   ·by_cases h2:s[k].toNat<=126
    ·by_cases h3:s[k].toNat=37
     ·have q1:(33:Int)<=(s[k].toNat:Int):=by omega
      have q2:(s[k].toNat:Int)<=126:=by omega
      have q3:((s[k].toNat:Int) != 37)=false:=by rw[h3];rfl
      have HE:Box (dX s.data.toList (k+1)=dX s.data.toList k++[37,uV (s[k].toNat / 16),uV (s[k].toNat % 16)]):=⟨by rw[HX.o];unfold lY;rw[if_neg (by omega)]⟩
      clear HX h1 h2 h3
      go_wp2_with fail
      go_region_law (refine yD _ rfl (.tmp 29) (.tmp 36) rfl w.heap.size u3 (dX s.data.toList k) (by simp[Act.eval]) (by exact World.ownsRow.alloc HO.o _) wr.heap.size 3 [37,uV (s[k].toNat / 16),uV (s[k].toNat % 16)] (by simp[Act.eval]) (by intro j hj;match j,hj with|0,_=>simp|1,_=>simp[uS];rfl|2,_=>simp[uS];rfl) (by simp;omega) (by simp;omega) ?_;intro v2 w2 hO2 hg2;have hb2:Below w.heap.size w w2:=((hb.drew).alloc hsz _).grown hg2 (by simp;omega) (fun x hx=>(World.ownsRow.lt HO.o x hx).1);obtain⟨A2,n2,c2,rfl⟩:=He hO2)
      all_goals
       go_wp2
       go_roundw
       case rel=>exact⟨k+1,by omega,by go_num,⟨by rw[HE.o];exact hO2⟩,hb2⟩
       case measure=>simp[intOf];omega
     ·have q1:(33:Int)<=(s[k].toNat:Int):=by omega
      have q2:(s[k].toNat:Int)<=126:=by omega
      have q3:((s[k].toNat:Int)==37)=false:=beq_eq_false_iff_ne.2 (by omega)
      have HE:Box (dX s.data.toList (k+1)=dX s.data.toList k++[s[k]]):=⟨by rw[HX.o];unfold lY;rw[if_pos ⟨h1,h2,h3⟩]⟩
      clear HX h1 h2 h3
      go_wp2_with (at_builtin;refine nK _ w rfl (.tmp 25) (.tmp 27) rfl w.heap.size _ (dX s.data.toList k) rfl (World.ownsRow.alloc HO.o _) ⟨wr.heap.size,0,none⟩ 1 1 [s[k]] rfl rfl (by intro j hj;obtain rfl:j=0:=(by simp at hj;exact hj);simp[Addr.add]) (by simp;omega) (by simp;omega) (hb.alloc hsz _) ?_;intro v2 w2 hO2 hb2 hg2)
      go_roundw
      case rel=>exact⟨k+1,by omega,by go_num,⟨by rw[HE.o];exact hO2⟩,hb2⟩
      case measure=>simp[intOf];omega
    ·have q1:(33:Int)<=(s[k].toNat:Int):=by omega
     have q2:¬(s[k].toNat:Int)<=126:=by omega
     have HE:Box (dX s.data.toList (k+1)=dX s.data.toList k++[37,uV (s[k].toNat / 16),uV (s[k].toNat % 16)]):=⟨by rw[HX.o];unfold lY;rw[if_neg (by omega)]⟩
     clear HX
     go_wp2_with fail
     go_region_law (refine yD _ rfl (.tmp 29) (.tmp 36) rfl w.heap.size u3 (dX s.data.toList k) (by simp[Act.eval]) (by exact World.ownsRow.alloc HO.o _) wr.heap.size 3 [37,uV (s[k].toNat / 16),uV (s[k].toNat % 16)] (by simp[Act.eval]) (by intro j hj;match j,hj with|0,_=>simp|1,_=>simp[uS];rfl|2,_=>simp[uS];rfl) (by simp;omega) (by simp;omega) ?_;intro v2 w2 hO2 hg2;have hb2:Below w.heap.size w w2:=((hb.drew).alloc hsz _).grown hg2 (by simp;omega) (fun x hx=>(World.ownsRow.lt HO.o x hx).1);obtain⟨A2,n2,c2,rfl⟩:=He hO2)
     all_goals
      go_wp2
      go_roundw
      case rel=>exact⟨k+1,by omega,by go_num,⟨by rw[HE.o];exact hO2⟩,hb2⟩
      case measure=>simp[intOf];omega
   ·have q1:¬(33:Int)<=(s[k].toNat:Int):=by omega
    have HE:Box (dX s.data.toList (k+1)=dX s.data.toList k++[37,uV (s[k].toNat / 16),uV (s[k].toNat % 16)]):=⟨by rw[HX.o];unfold lY;rw[if_neg (by omega)]⟩
    clear HX
    go_wp2_with fail
    go_region_law (refine yD _ rfl (.tmp 29) (.tmp 36) rfl w.heap.size u3 (dX s.data.toList k) (by simp[Act.eval]) (by exact World.ownsRow.alloc HO.o _) wr.heap.size 3 [37,uV (s[k].toNat / 16),uV (s[k].toNat % 16)] (by simp[Act.eval]) (by intro j hj;match j,hj with|0,_=>simp|1,_=>simp[uS];rfl|2,_=>simp[uS];rfl) (by simp;omega) (by simp;omega) ?_;intro v2 w2 hO2 hg2;have hb2:Below w.heap.size w w2:=((hb.drew).alloc hsz _).grown hg2 (by simp;omega) (fun x hx=>(World.ownsRow.lt HO.o x hx).1);obtain⟨A2,n2,c2,rfl⟩:=He hO2)
    all_goals
     go_wp2
     go_roundw
     case rel=>exact⟨k+1,by omega,by go_num,⟨by rw[HE.o];exact hO2⟩,hb2⟩
     case measure=>simp[intOf];omega
  ·have HE:Box (dX s.data.toList k++[34]=ed s.data.toList):=⟨by
    unfold dX ed
    rw[List.take_of_length_le (by rw[HL.o];omega)]
    rfl⟩
   have hkk:¬((k:Int)<(s.size:Int)):=by omega
   go_wp2_with (at_builtin;refine nK _ w rfl (.tmp 39) (.tmp 40) rfl w.heap.size _ (dX s.data.toList k) rfl (World.ownsRow.alloc HO.o _) ⟨wr.heap.size,0,none⟩ 1 1 [34] rfl rfl (by intro j hj;obtain rfl:j=0:=(by simp at hj;exact hj);simp[Addr.add]) (by simp;omega) (by simp;omega) (hb.alloc hsz _) ?_;intro v2 w2 hO2 hb2 hg2;have hcv:=hO2.string)
   go_wp2
   go_ret
   exact⟨_,rfl,HE.o,hb2⟩
structure Env(w:World):Prop where
 gl:mg w
 pg:PGB w w.heap.size
 tb:Tab w
theorem Env.below{w w':World}(h:Env w)(hb:Below w.heap.size w w'):Env w':=⟨h.gl.below hb h.gl.gb,(h.pg.below hb).up hb.size,h.tb.below hb h.tb.lt⟩
def kM(O:eU)(e:Ending):Prop:=match O with
 | .ok t=>∃T:ByteArray,e=.returned (.string T)/\T.data.toList=t
 | .error c=>e=dP c
theorem DF(b:aa):(Tx.packS b).length<=12*(b.length+3):=by
 have h:=Tx.inLinesTo_length (Tx.packTo b ((b.length+2) / 3)) (Tx.packTo b ((b.length+2) / 3)).length
 have h2:=Tx.packTo_length b ((b.length+2) / 3)
 show(Tx.inLinesTo _ _).length<=_
 omega
theorem zi(b:aa):(Tx.quoteS b).length<=6*b.length:=by
 have:=Tx.quoteTo_length b b.length
 unfold Tx.quoteS
 omega
theorem jb{ws:List (aa)}(h:fO ws<=3000):(dL ws).length<=3000:=Z4 (Fh ws).1 h
theorem lc{ws:List (aa)}(h:fO ws<=3000):ws.length<=3000:=by
 have:∀ws:List (aa),ws.length<=fO ws:=by
  intro ws
  induction ws with
  | nil=>simp[fO]
  | cons w ws ih=>rw[gQ,ZV];omega
 exact Z4 (this ws) h
theorem Qs(d:Nat)(v:Value)(xs:List ByteArray)(w:World)(hX:TL w v xs)(hl:fO (tls xs)<=3000):
  Calls prog 22 #[.pointer (some ⟨d,0,none⟩),v] w fun e w'=>kM (.ok (ed (Tx.packS (dL (tls xs))))) e/\Below w.heap.size w w':=by
 have hj:=jb hl
 have hxl:xs.length<=3000:=by rw[<-di];exact lc hl
 have HJ:=Box.m (iY v xs w hX (by omega) (by omega))
 obtain⟨A,cap,rfl,-⟩:=hX
 generalize dL (tls xs)=J at HJ hj ⊢
 clear hl
 go_enter func22,ntmps22
 go_wp2_with fail
 refine HJ.o.mono ?_
 rintro e w1 ⟨t,rfl,ht,hb1⟩
 have hts:t.size<=3000:=by rw[<-ae,ht];exact hj
 have HP:=Box.m (Tx.pack_any t w1 (by omega))
 rw[ht]at HP
 have hpl:=DF J
 have hps:(⟨(Tx.packS J).toArray⟩:ByteArray).size<=100000:=by rw[<-ae];show(Tx.packS J).length<=_;omega
 obtain⟨P,HP0⟩:∃P:ByteArray,Box (P=⟨(Tx.packS J).toArray⟩):=⟨_,⟨rfl⟩⟩
 rw[<-HP0.o]at HP hps
 clear HJ ht hpl
 go_wp2_with fail
 refine HP.o.mono ?_
 rintro e w2 ⟨rfl,hb2⟩
 have hb02:=hb1.trans (hb2.mono hb1.size)
 clear HP
 go_wp2_with fail
 refine(iR P w2 (by omega)).mono ?_
 rintro e w3 ⟨T,rfl,hT,hb3⟩
 have HT:Box (T.data.toList=ed (Tx.packS J)):=⟨by rw[hT,HP0.o]⟩
 clear hT
 go_wp2
 go_ret
 exact⟨⟨T,rfl,HT.o⟩,hb02.trans (hb3.mono hb02.size)⟩
theorem NR(d:Nat)(v:Value)(xs:List ByteArray)(w:World)(hX:TL w v xs)(hl:fO (tls xs)<=3000):
  Calls prog 24 #[.pointer (some ⟨d,0,none⟩),v] w fun e w'=>kM (.ok (ed (Tx.quoteS (dL (tls xs))))) e/\Below w.heap.size w w':=by
 have hj:=jb hl
 have hxl:xs.length<=3000:=by rw[<-di];exact lc hl
 have HJ:=Box.m (iY v xs w hX (by omega) (by omega))
 obtain⟨A,cap,rfl,-⟩:=hX
 generalize dL (tls xs)=J at HJ hj ⊢
 clear hl
 go_enter func24,ntmps24
 go_wp2_with fail
 refine HJ.o.mono ?_
 rintro e w1 ⟨t,rfl,ht,hb1⟩
 have hts:t.size<=3000:=by rw[<-ae,ht];exact hj
 have HP:=Box.m (Tx.quote_any t w1 (by omega))
 rw[ht]at HP
 have hpl:=zi J
 have hps:(⟨(Tx.quoteS J).toArray⟩:ByteArray).size<=100000:=by rw[<-ae];show(Tx.quoteS J).length<=_;omega
 obtain⟨P,HP0⟩:∃P:ByteArray,Box (P=⟨(Tx.quoteS J).toArray⟩):=⟨_,⟨rfl⟩⟩
 rw[<-HP0.o]at HP hps
 clear HJ ht hpl
 go_wp2_with fail
 refine HP.o.mono ?_
 rintro e w2 ⟨rfl,hb2⟩
 have hb02:=hb1.trans (hb2.mono hb1.size)
 clear HP
 go_wp2_with fail
 refine(iR P w2 (by omega)).mono ?_
 rintro e w3 ⟨T,rfl,hT,hb3⟩
 have HT:Box (T.data.toList=ed (Tx.quoteS J)):=⟨by rw[hT,HP0.o]⟩
 clear hT
 go_wp2
 go_ret
 exact⟨⟨T,rfl,HT.o⟩,hb02.trans (hb3.mono hb02.size)⟩
theorem Ke(d:Nat)(v:Value)(xs:List ByteArray)(w:World)(hX:TL w v xs)(hl:fO (tls xs)<=3000)(hE:Env w):
  Calls prog 26 #[.pointer (some ⟨d,0,none⟩),v] w fun e w'=>kM (F4 (Tx.unpackS (dL (tls xs)))) e/\Below w.heap.size w w':=by
 have hj:=jb hl
 have hxl:xs.length<=3000:=by rw[<-di];exact lc hl
 have HJ:=Box.m (iY v xs w hX (by omega) (by omega))
 have HE:=Box.m hE
 obtain⟨A,cap,rfl,-⟩:=hX
 generalize dL (tls xs)=J at HJ hj ⊢
 have HLn:Box (∀b,Tx.unpackS J=some b->b.length<=3000):=⟨fun b hb=>Z4 (tC J b hb) hj⟩
 obtain⟨O,HO⟩:∃O,Box (Tx.unpackS J=O):=⟨_,⟨rfl⟩⟩
 rw[HO.o]at HLn ⊢
 clear hl hE
 go_enter func26,ntmps26
 go_wp2_with fail
 refine HJ.o.mono ?_
 rintro e w1 ⟨t,rfl,ht,hb1⟩
 have hts:t.size<=3000:=by rw[<-ae,ht];exact hj
 have HP:=Box.m (Tx.unpack_any t w1 (by omega))
 rw[ht,HO.o]at HP
 clear HJ ht HO
 go_wp2_with fail
 refine HP.o.mono ?_
 rintro e w2 ⟨rfl,hb2⟩
 have hb02:=hb1.trans (hb2.mono hb1.size)
 clear HP
 cases O with
 | none=>
  have HEt:=Box.m (HE.o.below hb02).gl.et
  have hu:Tx.unV none=.tuple #[.string ⟨#[]⟩,.iface 25 (.int .i64 3)]:=rfl
  rw[hu]
  clear hu
  go_wp2_with fail
  refine(jh 3 w2 HEt.o).mono ?_
  rintro e w3 ⟨rfl,hb3⟩
  go_wp2
  exact⟨rfl,rfl,hb02.trans (hb3.mono hb02.size)⟩
 | some b=>
  have hbs:(⟨b.toArray⟩:ByteArray).size<=3000:=by rw[<-ae];exact HLn.o b rfl
  obtain⟨P,HP0⟩:∃P:ByteArray,Box (P=⟨b.toArray⟩):=⟨_,⟨rfl⟩⟩
  have hu:Tx.unV (some b)=.tuple #[.string ⟨b.toArray⟩,.nilIface]:=rfl
  rw[hu]
  rw[<-HP0.o]at hbs ⊢
  clear hu
  go_wp2_with fail
  refine(iw w2).mono ?_
  rintro e w3 ⟨rfl,hw3⟩
  obtain rfl:=hw3.symm
  go_wp2_with fail
  refine(iR P w2 (by omega)).mono ?_
  rintro e w3 ⟨T,rfl,hT,hb3⟩
  have HT:Box (T.data.toList=ed b):=⟨by rw[hT,HP0.o]⟩
  clear hT
  go_wp2
  go_ret
  exact⟨⟨T,rfl,HT.o⟩,hb02.trans (hb3.mono hb02.size)⟩
theorem GH(d:Nat)(v:Value)(xs:List ByteArray)(w:World)(hX:TL w v xs)(hl:fO (tls xs)<=3000)(hE:Env w):
  Calls prog 27 #[.pointer (some ⟨d,0,none⟩),v] w fun e w'=>kM (F4 (Tx.unquoteS (dL (tls xs)))) e/\Below w.heap.size w w':=by
 have hj:=jb hl
 have hxl:xs.length<=3000:=by rw[<-di];exact lc hl
 have HJ:=Box.m (iY v xs w hX (by omega) (by omega))
 have HE:=Box.m hE
 obtain⟨A,cap,rfl,-⟩:=hX
 generalize dL (tls xs)=J at HJ hj ⊢
 have HLn:Box (∀b,Tx.unquoteS J=some b->b.length<=3000):=⟨fun b hb=>Z4 (rq J b hb) hj⟩
 obtain⟨O,HO⟩:∃O,Box (Tx.unquoteS J=O):=⟨_,⟨rfl⟩⟩
 rw[HO.o]at HLn ⊢
 clear hl hE
 go_enter func27,ntmps27
 go_wp2_with fail
 refine HJ.o.mono ?_
 rintro e w1 ⟨t,rfl,ht,hb1⟩
 have hts:t.size<=3000:=by rw[<-ae,ht];exact hj
 have HP:=Box.m (Tx.unquote_any t w1 (by omega) (HE.o.below hb1).gl.mx)
 rw[ht,HO.o]at HP
 clear HJ ht HO
 go_wp2_with fail
 refine HP.o.mono ?_
 rintro e w2 ⟨rfl,hb2⟩
 have hb02:=hb1.trans (hb2.mono hb1.size)
 clear HP
 cases O with
 | none=>
  have HEt:=Box.m (HE.o.below hb02).gl.et
  have hu:Tx.unV none=.tuple #[.string ⟨#[]⟩,.iface 25 (.int .i64 3)]:=rfl
  rw[hu]
  clear hu
  go_wp2_with fail
  refine(jh 3 w2 HEt.o).mono ?_
  rintro e w3 ⟨rfl,hb3⟩
  go_wp2
  exact⟨rfl,rfl,hb02.trans (hb3.mono hb02.size)⟩
 | some b=>
  have hbs:(⟨b.toArray⟩:ByteArray).size<=3000:=by rw[<-ae];exact HLn.o b rfl
  obtain⟨P,HP0⟩:∃P:ByteArray,Box (P=⟨b.toArray⟩):=⟨_,⟨rfl⟩⟩
  have hu:Tx.unV (some b)=.tuple #[.string ⟨b.toArray⟩,.nilIface]:=rfl
  rw[hu]
  rw[<-HP0.o]at hbs ⊢
  clear hu
  go_wp2_with fail
  refine(iw w2).mono ?_
  rintro e w3 ⟨rfl,hw3⟩
  obtain rfl:=hw3.symm
  go_wp2_with fail
  refine(iR P w2 (by omega)).mono ?_
  rintro e w3 ⟨T,rfl,hT,hb3⟩
  have HT:Box (T.data.toList=ed b):=⟨by rw[hT,HP0.o]⟩
  clear hT
  go_wp2
  go_ret
  exact⟨⟨T,rfl,HT.o⟩,hb02.trans (hb3.mono hb02.size)⟩
theorem QN(d:Nat)(v:Value)(xs:List ByteArray)(w:World)(hX:TL w v xs):
  Calls prog 17 #[.pointer (some ⟨d,0,none⟩),v] w fun e w'=>kM (rT (tls xs) (.ok X7)) e/\Below w.heap.size w w':=by
 obtain⟨A,cap,rfl,-⟩:=hX
 cases xs with
 | nil=>
  have HN:=Box.m (jl A 0 cap w)
  go_enter func17,ntmps17
  go_wp2_with fail
  refine HN.o.mono ?_
  rintro e w1 ⟨rfl,hw1⟩
  obtain rfl:=hw1.symm
  go_wp2
  go_ret
  exact⟨⟨_,rfl,rfl⟩,Below.refl _ _⟩
 | cons x xs=>
  have HN:=Box.m (kD A (x::xs).length cap 0 w (by simp))
  go_enter func17,ntmps17
  go_wp2_with fail
  refine HN.o.mono ?_
  rintro e w1 ⟨rfl,hw1⟩
  obtain rfl:=hw1.symm
  go_wp2
  exact⟨rfl,rfl,Below.refl _ _⟩
def BH(O:Option AB)(e:Ending):Prop:=match O with
 | none=>e=dP 3
 | some a=>e=.returned (AV.of a).val/\(AV.of a).Small 3000
abbrev xL:Obj:=ko ⟨#[]⟩ false ⟨#[]⟩ ⟨#[]⟩ false ⟨#[]⟩ false ⟨#[]⟩
theorem wH(s:ByteArray)(w:World)(hs:s.size<=3000)(hE:Env w):
  Calls prog 47 #[.string s] w fun e w'=>BH (bM s.data.toList) e/\Below w.heap.size w w':=by
 have hb0:Below w.heap.size w (w.alloc xL):=ag.alloc af _
 have hg0:=aP w xL
 have HR:=Box.m (xe s _ (by omega) (hE.below hb0).gl.mx)
 have HE:=Box.m hE
 clear hE
 cases hr:bM s.data.toList with
 | none=>
  obtain⟨h1,h2⟩:=vT hr
  rw[h1,h2]at HR
  clear h1 h2 hr
  go_enter func47,ntmps47
  go_wp2_with fail
  refine HR.o.mono ?_
  rintro e w1 ⟨rfl,-,hb1⟩
  have hb01:=hb0.trans (hb1.mono hb0.size)
  have hbA:Below w1.heap.size w1 (w1.alloc xL):=ag.alloc af _
  have hb02:=hb01.trans (hbA.mono hb01.size)
  have HEt:=Box.m (HE.o.below hb02).gl.et
  go_wp2_with fail
  refine(jh 3 _ HEt.o).mono ?_
  rintro e w3 ⟨rfl,hb3⟩
  go_wp2
  exact⟨rfl,rfl,hb02.trans (hb3.mono hb02.size)⟩
 | some a=>
  obtain⟨h1,h2⟩:=wF (v:=AV.of a) (by rw[nS];exact hr)
  rw[h1,h2]at HR
  clear h1 h2 hr
  have hpl:BH (some a)=fun e=>e=.returned (AV.of a).val/\(AV.of a).Small 3000:=rfl
  rw[hpl]
  generalize AV.of a=v at HR ⊢
  obtain⟨x0,x1,x2,x3,x4,x5,x6,x7⟩:=v
  clear hpl
  go_enter func47,ntmps47
  go_wp2_with fail
  refine HR.o.mono ?_
  rintro e w1 ⟨rfl,hsm,hb1⟩
  have hb01:=hb0.trans (hb1.mono hb0.size)
  have hbA:Below w1.heap.size w1 (w1.alloc (ko x0 x1 x2 x3 x4 x5 x6 x7)):=ag.alloc af _
  have hb02:=hb01.trans (hbA.mono hb01.size)
  have hgA:=aP w1 (ko x0 x1 x2 x3 x4 x5 x6 x7)
  have hgR:=az hbA (az hb1 hg0)
  have HSm:Box (AV.Small ⟨x0,x1,x2,x3,x4,x5,x6,x7⟩ 3000):=⟨⟨Z4 hsm.sc hs,Z4 hsm.au hs,Z4 hsm.pa hs,Z4 hsm.qu hs,Z4 hsm.fr hs⟩⟩
  obtain⟨y0,y1,y2,y3,y4,y5,y6,y7,yf⟩:=dU hgA
  obtain⟨z0,z1,z2,z3,z4,z5,z6,z7,zf⟩:=dU hgR
  have hg9:=kR hgR (.string x0) (.bool x1) (.string x2) (.string x3) (.bool x4) (.string x5) (.bool x6) (.string x7)
  have hb9:=iW hb02 (Z7 w.heap.size) (.string x0) (.bool x1) (.string x2) (.string x3) (.bool x4) (.string x5) (.bool x6) (.string x7)
  clear hsm HR hg0 hgA hgR
  go_wp2_with fail
  refine(iw _).mono ?_
  rintro e w3 ⟨rfl,hw3⟩
  obtain rfl:=hw3.symm
  go_wp2
  obtain⟨r0,r1,r2,r3,r4,r5,r6,r7,-⟩:=dU hg9
  refine bodyPost_ret (v:=.agg #[.string x0,.bool x1,.string x2,.string x3,.bool x4,.string x5,.bool x6,.string x7]) (by simp[results,results47,go_sem,r0,r1,r2,r3,r4,r5,r6,r7]) rfl ⟨⟨rfl,HSm.o⟩,hb9⟩
theorem TL.one{w:World}{A:Option Addr}{n cap:Nat}{x:ByteArray}{xs:List ByteArray}(h:TL w (.slice A n cap) (x::xs)):∃b off,A=some ⟨b,off,none⟩/\w.cell? ⟨b,off,none⟩=some (.string x):=by
 obtain⟨A',cap',e,_,hk⟩:=h
 simp only[Value.slice.injEq]at e
 obtain⟨rfl,_,rfl⟩:=e
 obtain⟨b,off,rfl,h1⟩:=hk 0 (by simp)
 exact⟨b,off,rfl,h1⟩
theorem kZ{xs:List ByteArray}(h:fO (tls xs)<=3000):∀x∈xs,x.size<=3000:=by
 induction xs with
 | nil=>intro x hx;cases hx
 | cons y ys ih=>
  have e:tls (y::ys)=y.data.toList::tls ys:=rfl
  rw[e,gQ,ae]at h
  intro x hx
  rcases List.mem_cons.1 hx with rfl|hx
  ·omega
  ·exact ih (by omega) x hx
theorem xw{ws:List (aa)}(h:ws.length≠1)(f:aa->eU):nC ws f=.error 3:=by
 match ws,h with
 | [],_=>rfl
 | [_],h=>exact absurd rfl h
 | _::_::_,_=>rfl
theorem IM{ws:List (aa)}(h:ws.length≠0)(r:eU):rT ws r=.error 3:=by
 match ws,h with
 | [],h=>exact absurd rfl h
 | _::_,_=>rfl
theorem QW(d:Nat)(v:Value)(xs:List ByteArray)(w:World)(hX:TL w v xs)(hl:fO (tls xs)<=3000)(hE:Env w):
  Calls prog 15 #[.pointer (some ⟨d,0,none⟩),v] w fun e w'=>kM (nC (tls xs) fun a=>.ok (isW (lS a))) e/\Below w.heap.size w w':=by
 by_cases h1:xs.length=1
 ·obtain⟨x,rfl⟩:∃x,xs=[x]:=ZZ.1 h1
  have hx:=kZ hl x (by simp)
  have hX0:=hX
  obtain⟨A,cap,rfl,-⟩:=hX
  obtain⟨b,off,rfl,c0⟩:=hX0.one
  have HN:=Box.m (jl (some ⟨b,off,none⟩) 1 cap w)
  have HD:=Box.m (uE x w (by omega) hE.gl.mx)
  have hnd:nC (tls [x]) (fun a=>.ok (isW (lS a)))=.ok (isW (lS x.data.toList)):=rfl
  have hdl:(lS x.data.toList).length<=x.size:=by rw[<-ae];exact mG _
  rw[hnd]
  clear hX0 hnd hl hE h1
  go_enter func15,ntmps15
  go_wp2_with fail
  refine HN.o.mono ?_
  rintro e w1 ⟨rfl,hw1⟩
  obtain rfl:=hw1.symm
  go_wp2_with fail
  refine HD.o.mono ?_
  rintro e w2 ⟨S,rfl,hS,hb2⟩
  have hss:S.size<=3001:=by rw[<-ae,hS];omega
  have HS:=Box.m hS
  clear HN HD hS hdl
  go_wp2
  go_ret
  exact⟨⟨_,rfl,by rw[Z9,aaa,HS.o];rfl⟩,hb2⟩
 ·have hn:=xw (ws:=tls xs) (by rw[di];exact h1) (fun a=>.ok (isW (lS a)))
  rw[hn]
  obtain⟨A,cap,rfl,-⟩:=hX
  have HN:=Box.m (kD A xs.length cap 1 w h1)
  clear hl hE hn h1
  go_enter func15,ntmps15
  go_wp2_with fail
  refine HN.o.mono ?_
  rintro e w1 ⟨rfl,hw1⟩
  obtain rfl:=hw1.symm
  go_wp2
  exact⟨rfl,rfl,Below.refl _ _⟩
theorem Qj(L:List Fl)(h:(L.map pb2).all kG=true):L.all gY=true:=by
 rw[List.all_map]at h
 exact h
theorem PH(d:Nat)(v:Value)(xs:List ByteArray)(w:World)(hX:TL w v xs)(hl:fO (tls xs)<=3000)(hE:Env w):
  Calls prog 18 #[.pointer (some ⟨d,0,none⟩),v] w fun e w'=>kM (match eO (dL (tls xs))with|none=>.error 3|some q=>.ok (eQ q.1 q.2)) e/\Below w.heap.size w w':=by
 have hj:=jb hl
 have hxl:xs.length<=3000:=by rw[<-di];exact lc hl
 have HJ:=Box.m (iY v xs w hX (by omega) (by omega))
 have HE:=Box.m hE
 obtain⟨A,cap,rfl,-⟩:=hX
 generalize dL (tls xs)=J at HJ hj ⊢
 have HKg:Box (∀q,eO J=some q->xZ q.1 q.2=true):=⟨fun q hq=>uG J q.1 q.2 hq⟩
 obtain⟨O,HO⟩:∃O,Box (eO J=O):=⟨_,⟨rfl⟩⟩
 rw[HO.o]at HKg ⊢
 clear hl hE
 go_enter func18,ntmps18
 go_wp2_with fail
 refine HJ.o.mono ?_
 rintro e w1 ⟨t,rfl,ht,hb1⟩
 have hts:t.size<=3000:=by rw[<-ae,ht];exact hj
 have HP:=Box.m (uJ t w1 (by omega) (HE.o.below hb1).gl.mx)
 rw[ht,HO.o]at HP
 clear HJ ht HO
 go_wp2_with fail
 refine HP.o.mono ?_
 rintro e w2 ⟨hR,hb2⟩
 have hb02:=hb1.trans (hb2.mono hb1.size)
 clear HP
 cases O with
 | none=>
  have hR:e=.returned (.tuple #[.string ⟨#[]⟩,.slice none 0 0,.iface 25 (.int .i64 3)]):=hR
  subst hR
  have HEt:=Box.m (HE.o.below hb02).gl.et
  go_wp2_with fail
  refine(jh 3 w2 HEt.o).mono ?_
  rintro e w3 ⟨rfl,hb3⟩
  go_wp2
  exact⟨rfl,rfl,hb02.trans (hb3.mono hb02.size)⟩
 | some q=>
  obtain⟨m,vq,L,rfl,hm,hO,hL,hms,hLl,hLs⟩:=(hR:∃(m:ByteArray) (v:Value) (L:List Fl),e=.returned (.tuple #[.string m,v,.nilIface])/\m.data.toList=q.1/\gu w2 w1.heap.size v L/\L.map pb2=q.2/\m.size<=t.size/\L.length<=t.size/\∀f∈L,f.1.size<=t.size/\f.2.size<=t.size)
  have HQ:=Box.m hO.fl
  obtain⟨Aq,cq,hvq,-⟩:=_root_.id hO.fl
  subst hvq
  have HG:=Box.m (HKg.o q rfl)
  have HM:Box (m.data.toList=q.1):=⟨hm⟩
  have HL:Box (L.map pb2=q.2):=⟨hL⟩
  have hMid:Mid L:=⟨by omega,fun f hf=>by have:=hLs f hf;omega⟩
  have HMd:=Box.m hMid
  clear hm hL hO hLs hMid
  go_wp2_with fail
  refine(iw w2).mono ?_
  rintro e w3 ⟨rfl,hw3⟩
  obtain rfl:=hw3.symm
  go_wp2_with fail
  refine(vU m _ L w2 (by omega) HMd.o HQ.o (HE.o.below hb02).gl.mx).mono ?_
  rintro e w3 ⟨hK,hb3⟩
  have hb03:=hb02.trans (hb3.mono hb02.size)
  have hg:=HG.o
  unfold xZ at hg
  rw[Bool.and_eq_true]at hg
  rcases hK with⟨hbad,_⟩|⟨_,hbad,_⟩|⟨_,_,T,rfl,hT⟩
  ·rw[HM.o,hg.1]at hbad;cases hbad
  ·have:=K7 L (Qj L (by rw[HL.o];exact hg.2))
   omega
  ·have HT:Box (T.data.toList=eQ q.1 q.2):=⟨by rw[hT,HM.o,HL.o]⟩
   clear hg hT HG HM HL HMd HQ
   go_wp2_with fail
   refine(iw w3).mono ?_
   rintro e w4 ⟨rfl,hw4⟩
   obtain rfl:=hw4.symm
   go_wp2
   go_ret
   exact⟨⟨T,rfl,HT.o⟩,hb03⟩
theorem EN(R:Option Nat)(w:World)(hR:∀n,R=some n->n<=1000000)(ht:Tab w):
  Calls prog 11 #[jB R] w fun e w'=>∃T:ByteArray,e=.returned (.string T)/\T.data.toList=Lib.itoa (nO R)/\Below w.heap.size w w':=by
 have key:∀z:Int,-9223372036854775808<=z->z<=9223372036854775807->Calls prog 11 #[.int .i64 z] w fun e w'=>∃T:ByteArray,e=.returned (.string T)/\T.data.toList=Lib.itoa z/\Below w.heap.size w w':=by
  intro z h0 h1
  refine(Tryz.strconv_Itoa z h0 h1 w ht.t).mono ?_
  rintro e w' ⟨rfl,k,os,rfl⟩
  exact⟨_,rfl,rfl,vQ w k os⟩
 cases R with
 | none=>exact key (-1) (by omega) (by omega)
 | some n=>have:=hR n rfl;exact key (n:Int) (by omega) (by omega)
theorem QH{Xf:Nat->Prop}{w:World}{d:Nat}{σ:Dk}(h:DS Xf w d σ)(v:Value)(xs:List ByteArray)(hX:TL w v xs)(hl:fO (tls xs)<=3000)(hE:Env w):
  Calls prog 16 #[.pointer (some ⟨d,0,none⟩),v] w fun e w'=>kM (nC (tls xs) fun a=>dR σ fun b=>dQ a fun x=>.ok (Lib.itoa (nO (jU b.ps x)))) e/\Below w.heap.size w w':=by
 by_cases h1:xs.length=1
 ·obtain⟨x,rfl⟩:∃x,xs=[x]:=ZZ.1 h1
  have hx:=kZ hl x (by simp)
  have hX0:=hX
  obtain⟨A,cap,rfl,-⟩:=hX
  obtain⟨b,off,rfl,c0⟩:=hX0.one
  have HN:=Box.m (jl (some ⟨b,off,none⟩) 1 cap w)
  have hnd:nC (tls [x]) (fun a=>dR σ fun b=>dQ a fun x=>.ok (Lib.itoa (nO (jU b.ps x))))=dR σ fun b=>dQ x.data.toList fun x=>.ok (Lib.itoa (nO (jU b.ps x))):=rfl
  rw[hnd]
  have HPl:=Box.m (wH x w hx hE)
  have HE:=Box.m hE
  clear hX0 hnd hl hE h1
  cases hb:σ.bd with
  | none=>
   have ho:dR σ (fun b=>dQ x.data.toList fun x=>.ok (Lib.itoa (nO (jU b.ps x))))=.error 7:=by unfold dR;rw[hb]
   rw[ho]
   have HD:=Box.m (nz h hb)
   clear ho hb h
   go_enter func16,ntmps16
   go_wp2_with fail
   refine HN.o.mono ?_
   rintro e w1 ⟨rfl,hw1⟩
   obtain rfl:=hw1.symm
   go_wp2_with fail
   refine HD.o.mono ?_
   rintro e w1 ⟨rfl,hw1⟩
   obtain rfl:=hw1.symm
   go_wp2
   exact⟨rfl,rfl,Below.refl _ _⟩
  | some bb=>
   have ho:dR σ (fun b=>dQ x.data.toList fun x=>.ok (Lib.itoa (nO (jU b.ps x))))=dQ x.data.toList fun x=>.ok (Lib.itoa (nO (jU bb.ps x))):=by unfold dR;rw[hb]
   rw[ho]
   obtain⟨g,hv,hl,A,cp,ps,root,c1,hB,hbb,-⟩:=h.yes bb hb
   have HD:=Box.m (lL c1)
   have hps:bb.ps=ps.map XP.bp:=by rw[hbb]
   rw[hps]
   have HB:=Box.m hB
   clear ho hb h c1 hB hbb hps
   cases hr:bM x.data.toList with
   | none=>
    rw[hr]at HPl
    have hq:dQ x.data.toList (fun x=>.ok (Lib.itoa (nO (jU (ps.map XP.bp) x))))=.error 3:=by unfold dQ;rw[hr]
    rw[hq]
    clear hq hr
    go_enter func16,ntmps16
    go_wp2_with fail
    refine HN.o.mono ?_
    rintro e w1 ⟨rfl,hw1⟩
    obtain rfl:=hw1.symm
    go_wp2_with fail
    refine HD.o.mono ?_
    rintro e w1 ⟨rfl,hw1⟩
    obtain rfl:=hw1.symm
    go_wp2_with fail
    refine HPl.o.mono ?_
    rintro e w1 ⟨he,hb1⟩
    have he:e=dP 3:=he
    subst he
    go_wp2
    exact⟨rfl,rfl,hb1⟩
   | some a=>
    rw[hr]at HPl
    have hq:dQ x.data.toList (fun x=>.ok (Lib.itoa (nO (jU (ps.map XP.bp) x))))=.ok (Lib.itoa (nO (jU (ps.map XP.bp) (AV.of a).ab))):=by unfold dQ;rw[hr,nS]
    rw[hq]
    have hpl:BH (some a)=fun e=>e=.returned (AV.of a).val/\(AV.of a).Small 3000:=rfl
    rw[hpl]at HPl
    generalize AV.of a=av at HPl ⊢
    obtain⟨R,HR⟩:∃R,Box (jU (ps.map XP.bp) av.ab=R):=⟨_,⟨rfl⟩⟩
    rw[HR.o]
    have hRl:∀n,R=some n->n<ps.length:=fun n hn=>by
     have:=xE (ps.map XP.bp) av.ab n (by rw[HR.o];exact hn)
     rwa[List.length_map]at this
    have HRl:=Box.m hRl
    have hpl60:ps.length<=60:=HB.o.xl.len
    clear hpl hq hr hRl
    go_enter func16,ntmps16
    go_wp2_with fail
    refine HN.o.mono ?_
    rintro e w1 ⟨rfl,hw1⟩
    obtain rfl:=hw1.symm
    go_wp2_with fail
    refine HD.o.mono ?_
    rintro e w1 ⟨rfl,hw1⟩
    obtain rfl:=hw1.symm
    go_wp2_with fail
    refine HPl.o.mono ?_
    rintro e w1 ⟨⟨rfl,hsm⟩,hb1⟩
    have HF:=Box.m (FT (HB.o.below hb1) av ⟨Z4 hsm.sc (by omega),Z4 hsm.au (by omega),Z4 hsm.pa (by omega),Z4 hsm.qu (by omega),Z4 hsm.fr (by omega)⟩)
    rw[HR.o]at HF
    obtain⟨x0,x1,x2,x3,x4,x5,x6,x7⟩:=av
    clear hsm HPl HD HN
    go_wp2_with fail
    refine HF.o.mono ?_
    rintro e w2 ⟨rfl,hb2⟩
    have hb02:=hb1.trans (hb2.mono hb1.size)
    have HI:=Box.m (EN R w2 (fun n hn=>by have:=HRl.o n hn;omega) (HE.o.below hb02).tb)
    clear HF
    cases R with
    | none=>
     have hi:jB none=.int .i64 (-1):=rfl
     rw[hi]at HI ⊢
     go_wp2_with fail
     refine HI.o.mono ?_
     rintro e w3 ⟨T,rfl,hT,hb3⟩
     have HT:=Box.m hT
     clear hT HI
     go_wp2
     go_ret
     exact⟨⟨T,rfl,HT.o⟩,hb02.trans (hb3.mono hb02.size)⟩
    | some n=>
     have hi:jB (some n)=.int .i64 (n:Int):=rfl
     rw[hi]at HI ⊢
     go_wp2_with fail
     refine HI.o.mono ?_
     rintro e w3 ⟨T,rfl,hT,hb3⟩
     have HT:=Box.m hT
     clear hT HI
     go_wp2
     go_ret
     exact⟨⟨T,rfl,HT.o⟩,hb02.trans (hb3.mono hb02.size)⟩
 ·have hn:=xw (ws:=tls xs) (by rw[di];exact h1) (fun a=>dR σ fun b=>dQ a fun x=>.ok (Lib.itoa (nO (jU b.ps x))))
  rw[hn]
  obtain⟨A,cap,rfl,-⟩:=hX
  have HN:=Box.m (kD A xs.length cap 1 w h1)
  clear hl hE hn h1 h
  go_enter func16,ntmps16
  go_wp2_with fail
  refine HN.o.mono ?_
  rintro e w1 ⟨rfl,hw1⟩
  obtain rfl:=hw1.symm
  go_wp2
  exact⟨rfl,rfl,Below.refl _ _⟩
theorem Fp(O:Except Nat (aa×Nat))(t:aa)(h:sw O=.ok t):t.length<=20000:=by
 unfold sw at h
 cases O with
 | error c=>cases h
 | ok q=>
  simp only at h
  split at h
  ·cases h
  ·cases h;omega
theorem Gm{xs:List (aa)}{k:Nat}(h:∀x∈xs,vH (gZ k) x):fw xs k=false:=by
 unfold fw
 rw[List.any_eq_false]
 intro x hx hc
 obtain⟨u,v,e⟩:=(mD x (gZ k)).1 hc
 exact h x hx u v e
theorem P5{Xf:Nat->Prop}{w:World}{d:Nat}{σ:Dk}(h:DS Xf w d σ)(v:Value)(xs:List ByteArray)(hX:TL w v xs)(hE:Env w):
  Calls prog 14 #[.pointer (some ⟨d,0,none⟩),v] w fun e w'=>kM (rT (tls xs) (dR σ oL)) e/\Below w.heap.size w w':=by
 by_cases h1:xs.length=0
 ·obtain rfl:=Z0 h1
  obtain⟨A,cap,rfl,-⟩:=hX
  have HN:=Box.m (jl A 0 cap w)
  have hnd:rT (tls []) (dR σ oL)=dR σ oL:=rfl
  rw[hnd]
  have HE:=Box.m hE
  clear hnd hE h1
  cases hb:σ.bd with
  | none=>
   have ho:dR σ oL=.error 7:=by unfold dR;rw[hb]
   rw[ho]
   have HD:=Box.m (nz h hb)
   clear ho hb h
   go_enter func14,ntmps14
   go_wp2_with fail
   refine HN.o.mono ?_
   rintro e w1 ⟨rfl,hw1⟩
   obtain rfl:=hw1.symm
   go_wp2_with fail
   refine HD.o.mono ?_
   rintro e w1 ⟨rfl,hw1⟩
   obtain rfl:=hw1.symm
   go_wp2
   exact⟨rfl,rfl,Below.refl _ _⟩
  | some bb=>
   have ho:dR σ oL=oL bb:=by unfold dR;rw[hb]
   rw[ho]
   obtain⟨g,hv,hl,A2,cp,ps,root,c1,hB,hbb,hFi⟩:=h.yes bb hb
   have HD:=Box.m (lL c1)
   have HBi:=Box.m (Qv hB bb hbb hFi.1 HE.o.gl HE.o.pg HE.o.tb)
   obtain⟨R,HR⟩:∃R,Box (oL bb=R):=⟨_,⟨rfl⟩⟩
   rw[HR.o]
   clear ho hb h c1 hB hbb hFi
   go_enter func14,ntmps14
   go_wp2_with fail
   refine HN.o.mono ?_
   rintro e w1 ⟨rfl,hw1⟩
   obtain rfl:=hw1.symm
   go_wp2_with fail
   refine HD.o.mono ?_
   rintro e w1 ⟨rfl,hw1⟩
   obtain rfl:=hw1.symm
   go_wp2_with fail
   refine HBi.o.mono ?_
   rintro e w2 ⟨k,hW,hap,hmin,hb2⟩
   have hk:=RF (Gm hap) hmin
   have HR2:Box (R=match sw (dY 4 0 (nu bb k))with | .error c=>.error c | .ok t=>.ok (ed t)):=⟨by rw[<-HR.o];unfold oL;rw[hk]<;>rfl⟩
   have HTl:Box (∀t,sw (dY 4 0 (nu bb k))=.ok t->t.length<=20000):=⟨fun t ht=>Fp _ _ ht⟩
   clear HR hk hap hmin HBi HD HN
   cases hq:sw (dY 4 0 (nu bb k))with
   | error c=>
    rw[hq]at hW HR2
    have hW:e=.returned (.tuple #[.string ⟨#[]⟩,.iface 25 (.int .i64 c)]):=hW
    subst hW
    have HEt:=Box.m (HE.o.below hb2).gl.et
    clear hq HTl
    go_wp2_with fail
    refine(jh c w2 HEt.o).mono ?_
    rintro e w3 ⟨rfl,hb3⟩
    go_wp2
    exact⟨rfl,by rw[HR2.o];rfl,hb2.trans (hb3.mono hb2.size)⟩
   | ok t=>
    have htl:=HTl.o t hq
    rw[hq]at hW HR2
    obtain⟨T,rfl,hTt⟩:=(hW:∃T:ByteArray,e=.returned (.tuple #[.string T,.nilIface])/\T.data.toList=t)
    have hTs:T.size<=20000:=by rw[<-ae,hTt];exact htl
    have HTt:=Box.m hTt
    clear hq HTl htl hTt
    go_wp2_with fail
    refine(iw w2).mono ?_
    rintro e w3 ⟨rfl,hw3⟩
    obtain rfl:=hw3.symm
    go_wp2_with fail
    refine(iR T w2 (by omega)).mono ?_
    rintro e w3 ⟨U,rfl,hU,hb3⟩
    have HU:Box (U.data.toList=ed t):=⟨by rw[hU,HTt.o]⟩
    clear hU
    go_wp2
    go_ret
    exact⟨by rw[HR2.o];exact⟨U,rfl,HU.o⟩,hb2.trans (hb3.mono hb2.size)⟩
 ·have hn:=IM (ws:=tls xs) (by rw[di];exact h1) (dR σ oL)
  rw[hn]
  obtain⟨A,cap,rfl,-⟩:=hX
  have HN:=Box.m (kD A xs.length cap 0 w h1)
  clear hE hn h1 h
  go_enter func14,ntmps14
  go_wp2_with fail
  refine HN.o.mono ?_
  rintro e w1 ⟨rfl,hw1⟩
  obtain rfl:=hw1.symm
  go_wp2
  exact⟨rfl,rfl,Below.refl _ _⟩
structure ASt(w:World)(d:Nat)(t:ByteArray)(w':World):Prop where
 c0:w'.cell? ⟨d,0,none⟩=some (.string t)
 bl:Below w.heap.size w w'
theorem YY{w:World}{d:Nat}{t:ByteArray}{q:Option Addr}(h:w.heap[d]?=some (.cells #[.string t,.pointer q] 28 (0,0)))(u:ByteArray):(w.setCell ⟨d,0,none⟩ (.string u)).heap[d]?=some (.cells #[.string u,.pointer q] 28 (0,0)):=by
 rw[setCell_eq_setRow w d 0 _ _ _ _ h]
 exact setRow_heap w d _ _ _ _ h
theorem DS.setAdd{Xf:Nat->Prop}{w:World}{d:Nat}{σ:Dk}(h:DS Xf w d σ)(u:ByteArray)(l:aa)(hu:u.data.toList=l):DS Xf (w.setCell ⟨d,0,none⟩ (.string u)) d ⟨l,σ.bd⟩:=by
 obtain⟨t,q,h1,h2,h3,h4⟩:=h.blk
 refine⟨u,q,YY h1 u,hu,h3,fun bb hbb=>?_⟩
 obtain⟨b,hv,hl,A,cap,ps,root,e,h5,h6,h7⟩:=h4 bb hbb
 exact⟨b,hv,hl,A,cap,ps,root,e,h5.other h1 (iT w d 0 _),h6,h7⟩
theorem Vr{Xf:Nat->Prop}{w:World}{d:Nat}{σ:Dk}(h:DS Xf w d σ)(hσ:σ.added.length<=3000)(v:Value)(xs:List ByteArray)(hX:TL w v xs)(hl:fO (tls xs)<=3000):
  Calls prog 12 #[.pointer (some ⟨d,0,none⟩),v] w fun e w'=>kM (.ok DU) e/\DS Xf w' d ⟨σ.added++(dL (tls xs)++[13,10]),σ.bd⟩/\w.grownBy w' (some d):=by
 have hj:=jb hl
 have hxl:xs.length<=3000:=by rw[<-di];exact lc hl
 have HJ:Box (∀w',Below w.heap.size w w'->Calls prog 36 #[v] w' fun e w''=>∃t:ByteArray,e=.returned (.string t)/\t.data.toList=dL (tls xs)/\Below w'.heap.size w' w''):=⟨fun w' hb=>iY v xs w' (hX.below hb) (by omega) (by omega)⟩
 obtain⟨A,cap,rfl,-⟩:=hX
 obtain⟨t,q,hblk,hta,-⟩:=_root_.id h.blk
 obtain⟨c0,c1,cf,-,hdl⟩:=lV hblk
 have hts:t.size<=3000:=by rw[<-ae,hta];exact hσ
 have HDS:=Box.m h
 have HTa:=Box.m hta
 generalize dL (tls xs)=J at HJ hj ⊢
 clear hl h hblk hta c1
 go_enter func12,ntmps12
 go_wp2_with fail
 refine fC 10 (ASt w d t) (by kernel_rfl) ?_
 have hS:ASt w d t w.drew:=⟨c0,ag.drew⟩
 refine aj (i:=0) (n:=5) (.pointer (some ⟨d,0,none⟩)) rfl rfl (by kernel_rfl) (by kernel_rfl) (by kernel_rfl) (by kernel_rfl) (fun _ _ _ h=>h) rfl (fun w' hS'=>?_) hS ?_
 ·clear hS' hS
  go_simp<;>with_reducible rfl
 simp only[Act.put,aH,aG,aI]
 refine aj (i:=1) (n:=6) (.pointer (some ⟨d,0,none⟩)) rfl rfl (by kernel_rfl) (by kernel_rfl) (by kernel_rfl) (by kernel_rfl) (fun _ _ _ h=>h) rfl (fun w' hS'=>?_) hS ?_
 ·clear hS' hS
  go_simp<;>with_reducible rfl
 simp only[Act.put,aH,aG,aI]
 refine aj (i:=2) (n:=7) (.pointer (some ⟨d,0,none⟩)) rfl rfl (by kernel_rfl) (by kernel_rfl) (by kernel_rfl) (by kernel_rfl) (fun _ _ _ h=>h) rfl (fun w' hS'=>?_) hS ?_
 ·clear hS' hS
  go_simp<;>with_reducible rfl
 simp only[Act.put,aH,aG,aI]
 refine aj (i:=3) (n:=8) (.string t) rfl rfl (by kernel_rfl) (by kernel_rfl) (by kernel_rfl) (by kernel_rfl) (fun _ _ _ h=>h) rfl (fun w' hS'=>?_) hS ?_
 ·have l0:=hS'.c0
  clear hS' hS
  go_simp<;>with_reducible rfl
 simp only[Act.put,aH,aG,aI]
 refine aj (i:=4) (n:=9) (.slice A xs.length cap) rfl rfl (by kernel_rfl) (by kernel_rfl) (by kernel_rfl) (by kernel_rfl) (fun _ _ _ h=>h) rfl (fun w' hS'=>?_) hS ?_
 ·clear hS' hS
  go_simp<;>with_reducible rfl
 simp only[Act.put,aH,aG,aI]
 refine ai (i:=5) (by kernel_rfl) rfl (fun K' hK=>?_)
 rw[if_pos (by rfl)]
 go_wp2_with (go_at_call 36;refine(HJ.o _ hS.bl).mono ?_;rintro e w1 ⟨S,rfl,hSs,hb1⟩)
 have hb01:Below w.heap.size w w1:=(Below.refl w.heap.size w).drew.trans hb1
 have hS1:ASt w d t w1:=⟨(hb01.cell (p:=⟨d,0,none⟩) hdl).trans c0,hb01⟩
 refine hK.out _ _ (fun _=>hS1) ?_
 have hSz:S.size<=3000:=by rw[<-ae,hSs];exact hj
 have HSs:=Box.m hSs
 have z1:¬9223372036854775807<S.size+2:=by omega
 have z2:¬9223372036854775807<t.size+(S.size+2):=by omega
 have hcf1:∀i,w1.frozen? ⟨d,i,none⟩=false:=fun i=>(World.frozen?_of_block (a:=⟨d,i,none⟩) (hb01.block d hdl)).trans (cf i)
 clear hK hS hSs
 have hS:=hS1
 refine aj (i:=6) (n:=11) (.string (S++⟨#[13,10]⟩)) rfl rfl (by kernel_rfl) (by kernel_rfl) (by kernel_rfl) (by kernel_rfl) (fun _ _ _ h=>h) rfl (fun w' hS'=>?_) hS ?_
 ·clear hS' hS
  go_simp<;>with_reducible rfl
 simp only[Act.put,aH,aG,aI]
 refine aj (i:=7) (n:=12) (.string (t++(S++⟨#[13,10]⟩))) rfl rfl (by kernel_rfl) (by kernel_rfl) (by kernel_rfl) (by kernel_rfl) (fun _ _ _ h=>h) rfl (fun w' hS'=>?_) hS ?_
 ·clear hS' hS
  go_simp<;>with_reducible rfl
 simp only[Act.put,aH,aG,aI]
 refine ai (i:=8) (by kernel_rfl) rfl (fun K' hK=>?_)
 rw[if_pos (by rfl)]
 go_wp2
 refine hK.out _ _ (fun _=>hS) ?_
 clear hK
 refine aj (i:=9) (n:=14) (.pointer (some ⟨d,0,none⟩)) rfl rfl (by kernel_rfl) (by kernel_rfl) (by kernel_rfl) (by kernel_rfl) (fun _ _ _ h=>h) rfl (fun w' hS'=>?_) hS ?_
 ·clear hS' hS
  go_simp<;>with_reducible rfl
 simp only[Act.put,aH,aG,aI]
 have cc:=hS.c0
 clear hS hS1
 refine ai (i:=10) (by kernel_rfl) rfl (fun K' hK=>?_)
 rw[if_pos (by rfl)]
 go_wp2
 refine hK.out _ _ (fun h=>absurd rfl h) ?_
 clear hK
 refine ja (by kernel_rfl) ?_ _
 have HDE:=Box.m ((HDS.o.below hb01).setAdd (t++(S++⟨#[13,10]⟩)) (σ.added++(J++[13,10])) (by rw[Z9,aaa,Z9,aaa,HTa.o,HSs.o]))
 have hgE:w.grownBy (w1.setCell ⟨d,0,none⟩ (.string (t++(S++⟨#[13,10]⟩)))) (some d):=aO (ak hb01 _) (iT _ _ _ _)
 go_wp2
 go_ret
 exact⟨⟨_,rfl,rfl⟩,HDE.o,hgE⟩
structure Lx(w:World)(g:Nat):Prop where
 c:∃ev,w.cell? ⟨g,0,none⟩=some ev/\(ev=.nilIface\/∃te pe,ev=.iface te pe)
theorem Lx.below{w w':World}{g d:Nat}(h:Lx w g)(hb:Below d w w')(hg:g<d):Lx w' g:=by
 obtain⟨ev,h1,h2⟩:=h.c
 exact⟨ev,(hb.cell (p:=⟨g,0,none⟩) hg).trans h1,h2⟩
structure lg(w:World)(d:Nat):Prop where
 gl:mg w
 gb:GB d
 pg:PGB w d
 tb:Tab w
 tl:1<d
 es:Lx w 4
 sl:4<d
 er:Lx w 5
 rl:5<d
theorem lg.env{w:World}{d:Nat}(h:lg w d)(hd:d<=w.heap.size):Env w:=⟨h.gl,h.pg.up hd,h.tb⟩
theorem lg.below{w w':World}{d:Nat}(h:lg w d)(hb:Below d w w'):lg w' d:=⟨h.gl.below hb h.gb,h.gb,h.pg.below hb,h.tb.below hb h.tl,h.tl,h.es.below hb h.sl,h.sl,h.er.below hb h.rl,h.rl⟩
theorem lg.gr{w w':World}{d:Nat}(h:lg w d)(hg:w.grownBy w' (some d))(hd:d<w.heap.size):lg w' d:=h.below (iX hg af hd)
theorem VO{w:World}{d:Nat}{t:ByteArray}{q:Option Addr}(h:w.heap[d]?=some (.cells #[.string t,.pointer q] 28 (0,0)))(r:Option Addr):(w.setCell ⟨d,1,none⟩ (.pointer r)).heap[d]?=some (.cells #[.string t,.pointer r] 28 (0,0)):=by
 rw[setCell_eq_setRow w d 1 _ _ _ _ h]
 exact setRow_heap w d _ _ _ _ h
theorem DS.lt{Xf:Nat->Prop}{w:World}{d:Nat}{σ:Dk}(h:DS Xf w d σ):d<w.heap.size:=by
 obtain⟨t,q,h1,_⟩:=h.blk
 exact(lV h1).2.2.2.2
theorem DS.setBd{Xf:Nat->Prop}{w:World}{d b:Nat}{σ:Dk}(h:DS Xf w d σ){hv:Value}{hl:List Fl}{A:Option Addr}{cap:Nat}{ps:List XP}{root:Nat}(hB:BN w b hv hl A cap ps root)(bb:BB)(hbb:bb=⟨hl.map fl2,ps.map XP.bp,root⟩)(hF:xB bb)(hO:Off Xf b hv A ps):DS Xf (w.setCell ⟨d,1,none⟩ (.pointer (some ⟨b,0,none⟩))) d ⟨σ.added,some bb⟩:=by
 obtain⟨t,q,h1,h2,_,_⟩:=h.blk
 refine⟨t,some ⟨b,0,none⟩,VO h1 _,h2,(fun e=>by cases e),fun b2 hb2=>?_⟩
 obtain rfl:=Option.some.inj hb2
 exact⟨b,hv,hl,A,cap,ps,root,rfl,hB.other h1 (iT w d 1 _),hbb,hF,hO⟩
theorem Y7{Xf:Nat->Prop}{B b:Nat}{hv:Value}{A:Option Addr}{ps:List XP}(hX:∀i,Xf i->i<B)(h:B<=b/\LoS B hv/\(∀g off,A=some ⟨g,off,none⟩->B<=g)/\∀p∈ps,LoS B p.hd):Off Xf b hv A ps:=
 ⟨fun x=>by have:=hX _ x;omega,fun A n c e b off e0 hn x=>by have:=hX _ x;have:=h.2.1 A n c e b off e0 hn;omega,fun g off e x=>by have:=hX _ x;have:=h.2.2.1 g off e;omega,fun p hp A n c e b off e0 hn x=>by have:=hX _ x;have:=h.2.2.2 p hp A n c e b off e0 hn;omega⟩
theorem Q4(s:aa)(bb:BB)(h:oF s=.ok bb)(hs:s.length<=2500):xB bb:=by
 unfold oF at h
 cases hr:gB s with
 | error c=>rw[hr]at h;cases h
 | ok p=>
  rw[hr]at h
  exact U8 s p bb hr hs ((Xi p bb).1 h)
def Sd(O:Except Nat BB)(bd:Option BB):eU×Dk:=match O with
 | .error c=>(.error c,⟨[],bd⟩)
 | .ok b=>(.ok (Lib.decDigits b.ps.length++[32]++Lib.decDigits b.root),⟨[],some b⟩)
def xK(σ:Dk)(ws:List (aa)):eU×Dk:=match ws with
 | []=>Sd (oF σ.added) σ.bd
 | _=>(.error 3,σ)
theorem QU{Xf:Nat->Prop}{w:World}{d:Nat}{σ:Dk}(h:DS Xf w d σ)(hσ:σ.added.length<=2500)(v:Value)(xs:List ByteArray)(hX:TL w v xs)(hE:lg w d)(hXf:∀i,Xf i->i<w.heap.size):
  Calls prog 21 #[.pointer (some ⟨d,0,none⟩),v] w fun e w'=>kM (xK σ (tls xs)).1 e/\DS Xf w' d (xK σ (tls xs)).2/\w.grownBy w' (some d):=by
 by_cases h1:xs.length=0
 ·obtain rfl:=Z0 h1
  obtain⟨A,cap,rfl,-⟩:=hX
  have HN:=Box.m (jl A 0 cap w)
  obtain⟨t,q,hblk,hta,-⟩:=_root_.id h.blk
  obtain⟨c0,c1,cf,-,hdl⟩:=lV hblk
  have hts:t.size<=2500:=by rw[<-ae,hta];exact hσ
  have hdE:DS Xf (w.setCell ⟨d,0,none⟩ (.string ⟨#[]⟩)) d ⟨[],σ.bd⟩:=h.setAdd ⟨#[]⟩ [] rfl
  have hg1:=iT w d 0 (.string ⟨#[]⟩)
  have hE1:=hE.gr hg1 hdl
  have HOp:=Box.m (Rf t _ (by omega) hE1.gl)
  rw[hta]at HOp
  obtain⟨R,HR⟩:∃R,Box (xK σ (tls [])=R):=⟨_,⟨rfl⟩⟩
  rw[HR.o]
  obtain⟨O,HO⟩:∃O,Box (oF σ.added=O):=⟨_,⟨rfl⟩⟩
  rw[HO.o]at HOp
  have HR2:Box (R=Sd O σ.bd):=⟨by rw[<-HR.o,<-HO.o];rfl⟩
  have HFi:Box (∀bb,O=.ok bb->xB bb):=⟨fun bb hb=>Q4 σ.added bb (by rw[HO.o];exact hb) hσ⟩
  have HD:=Box.m hdE
  have HE1:=Box.m hE1
  have HXf:Box (∀i,Xf i->i<(w.setCell ⟨d,0,none⟩ (.string ⟨#[]⟩)).heap.size):=⟨fun i hi=>by have:=hXf i hi;simpa[World.setCell]using this⟩
  clear hXf
  clear h hE h1 HR HO hdE hE1 hblk hta
  go_enter func21,ntmps21
  go_wp2_with fail
  refine HN.o.mono ?_
  rintro e w1 ⟨rfl,hw1⟩
  obtain rfl:=hw1.symm
  go_wp2_with fail
  refine HOp.o.mono ?_
  rintro e w2 ⟨hO,hb2⟩
  have hg2:=aO hg1 (ak hb2 (some d))
  have hD2:=HD.o.below hb2
  have hdl2:=hD2.lt
  have hE2:=HE1.o.below (hb2.mono (Z5 HD.o.lt))
  have HD2:=Box.m hD2
  have HE2:=Box.m hE2
  clear HOp HN HD HE1 hD2 hE2 c0 c1 cf
  cases O with
  | error c=>
   have hO:e=.returned (.tuple #[.pointer none,.iface 25 (.int .i64 c)]):=hO
   subst hO
   go_wp2_with fail
   refine(jh c w2 HE2.o.gl.et).mono ?_
   rintro e w3 ⟨rfl,hb3⟩
   go_wp2
   exact⟨rfl,by rw[HR2.o];rfl,by rw[HR2.o];exact HD2.o.below hb3,aO hg2 (ak hb3 _)⟩
  | ok bb=>
   obtain⟨b,hv,hl,A2,cp,ps,root,rfl,hB,hbb,hLo⟩:=hO
   have hFi:=HFi.o bb rfl
   have hOff:Off Xf b hv A2 ps:=Y7 HXf.o hLo
   have hD3:=HD2.o.setBd hB bb hbb hFi hOff
   have hg3:=iT w2 d 1 (.pointer (some ⟨b,0,none⟩))
   obtain⟨t2,q2,hblk2,-⟩:=_root_.id HD2.o.blk
   obtain⟨e0,e1,ef,-,-⟩:=lV hblk2
   have hB3:=hB.other hblk2 hg3
   have hE3:=HE2.o.gr hg3 hdl2
   have hgE:=aO hg2 hg3
   have hpl:=hB.xl.len
   have hrt:=hB.rt
   have HD3:=Box.m hD3
   have HB3:=Box.m hB3
   have HE3:=Box.m hE3
   have HBB:=Box.m hbb
   clear hD3 hB3 hE3 hbb hB hFi HFi hblk2
   go_wp2_with fail
   refine(iw w2).mono ?_
   rintro e w3 ⟨rfl,hw3⟩
   obtain rfl:=hw3.symm
   go_wp2_with fail
   generalize w2.setCell ⟨d,1,none⟩ (.pointer (some ⟨b,0,none⟩))=w3 at HD3 HB3 HE3 hgE hg3 ⊢
   refine(LY HB3.o).mono ?_
   rintro e w4 ⟨u,L,rfl,hOP,hL,hb4⟩
   obtain⟨A4,c4,hu⟩:∃A4 c4,u=.slice A4 ps.length c4:=by
    obtain⟨A4,c4,e4⟩:=hOP.len
    have:L.length=ps.length:=by have:=congrArg List.length hL;simpa using this
    exact⟨A4,c4,by rw[e4,this]⟩
   subst hu
   have hd3:=HD3.o.lt
   have HE4:=Box.m (HE3.o.below (hb4.mono (Z5 hd3)))
   clear hOP hL
   go_wp2_with fail
   refine(lF ps.length w4 (by omega) HE4.o.tb).mono ?_
   rintro e w5 ⟨rfl,hb5⟩
   have hb35:=hb4.trans (hb5.mono hb4.size)
   have HE5:=Box.m (HE3.o.below (hb35.mono (Z5 hd3)))
   obtain⟨D1,HD1⟩:∃D:ByteArray,Box (D=⟨(Lib.decDigits ps.length).toArray⟩):=⟨_,⟨rfl⟩⟩
   rw[<-HD1.o]
   have hd1:D1.size<=10:=by rw[<-ae,HD1.o];show(Lib.decDigits ps.length).length<=_;rw[Lib.decDigits_length];exact fI 9 _ (by omega)
   go_wp2_with fail
   refine(SI (HB3.o.below hb35)).mono ?_
   rintro e w6 ⟨rfl,hw6⟩
   obtain rfl:=hw6.symm
   go_wp2_with fail
   refine(lF root w5 (by omega) HE5.o.tb).mono ?_
   rintro e w6 ⟨rfl,hb6⟩
   have hb36:=hb35.trans (hb6.mono hb35.size)
   obtain⟨D2,HD2'⟩:∃D:ByteArray,Box (D=⟨(Lib.decDigits root).toArray⟩):=⟨_,⟨rfl⟩⟩
   rw[<-HD2'.o]
   have hd2:D2.size<=10:=by rw[<-ae,HD2'.o];show(Lib.decDigits root).length<=_;rw[Lib.decDigits_length];exact fI 9 _ (by omega)
   have z1:¬9223372036854775807<D1.size+1:=by omega
   have z2:¬9223372036854775807<D1.size+1+D2.size:=by omega
   go_wp2
   go_ret
   refine⟨?_,?_,aO hgE (ak hb36 _)⟩
   ·rw[HR2.o,HBB.o]
    refine⟨_,rfl,?_⟩
    rw[Z9,aaa,Z9,aaa,HD1.o,HD2'.o]
    simp
   ·rw[HR2.o]
    exact HD3.o.below hb36
 ·have hn:xK σ (tls xs)=(.error 3,σ):=by
   cases xs with
   | nil=>exact absurd rfl h1
   | cons x xs=>rfl
  rw[hn]
  obtain⟨A,cap,rfl,-⟩:=hX
  have HN:=Box.m (kD A xs.length cap 0 w h1)
  have HD:=Box.m h
  clear hE hn h1 h
  go_enter func21,ntmps21
  go_wp2_with fail
  refine HN.o.mono ?_
  rintro e w1 ⟨rfl,hw1⟩
  obtain rfl:=hw1.symm
  go_wp2
  exact⟨rfl,rfl,HD.o,ak ag _⟩
end Go.Proofs.YtkldkhdigkpniaaGreatDoor
