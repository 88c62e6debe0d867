import Derived.Test.YtkldkhdigkpniaaGreatDoorZ45
import Derived.RangeFuncNested
import Derived.RangeFuncBound
import Derived.RangeFuncCalls
import Derived.RangeFuncLeaves
import Derived.RangeFuncWrites
import Derived.Shelf.Abstract
import Derived.Shelf.RegionOpen
import Derived.OwnWalkIn
import Derived.TacticsInMore
import Derived.LoopNIn
import Derived.LoopIn
import Derived.Lib.ItoaLen
set_option maxHeartbeats 4000000
set_option maxRecDepth 100000
open Go.World renaming size_alloc → GL, putObj_heap_other → VQ, block_lt_of_cell? → Ws, putObj_heap_same → Xu
open Array renaming getElem?_eq_some_iff → ZV, toList_append → ZW, replicate_succ → ZX, replicate_zero → ZY, getElem?_modify → ZZ
open List renaming length_cons → Z0, length_append → Z4, length_nil → Z5, getElem?_eq_getElem → Z6, mem_map → Z7, length_map → Z8, map_cons → Z9, sum_cons → aaa, take_add_one → aab, mem_cons → aac, length_take → aad, size_toArray → aae, push_toArray → aaf, append_toArray → aag, nil_append → aah, cons_append → aai, map_nil → aaj, map_append → aak, sum_append → aal
open Nat renaming lt_of_lt_of_le → aam, le_trans → aan, le_refl → aao, zero_le → aap, le_of_lt → aaq
open Option renaming toList_some → aar, map_some → aas
open ByteArray renaming size_append → aat, data_append → aau
namespace Go.Proofs.YtkldkhdigkpniaaGreatDoor
open Go.RowKit Go.Proofs.Px Go.Proofs.Tryz
section
variable {F:Fence} {n:Nat} {P:Program}
def X3(F:Fence)(n:Nat)(P:Program)(gf:Nat)(lb:Array Value)(Mx:World->Prop)(N:Nat)(val:Nat->Array Value)(w:World):Prop:=
 ∀(l:Nat) (J:Nat->World->Prop) (W:World),Below w.heap.size w W->(∀k A,J k A->Mx A)->(∀k A B,J k A->Below A.heap.size A B->J k B) ->
  (∀k W1,k<N->J k W1->YieldAt F (n - 1) P l (val k) W1 fun e W'=>e=.returned (.bool true)/\J (k+1) W')->J 0 W ->
  CallsIn F n P gf (#[.func (.yield l) #[] #[]]++lb) W fun e W'=>(∃v,e=.returned v)/\J N W'
def WS(B:Nat)(I:Nat->World->Prop)(k:Nat)(W:World):Exit->Act->World->Prop
 | .normal,_,W'=>KeepsFrom B W W'/\I (k+1) W'
 | _,_,_=>False
theorem NU{g:Operand}{ps:Array Tmp}{assign body:Code}{Q:Exit->Act->World->Prop}{a:Act}{w:World}(hro:F.round=none)(h1:1<=n){gf:Nat}{lb:Array Value}(hg:a.eval g=.func (.func gf) #[] lb)(hFg:F.fn gf)(eg:∀args w,(callFunc gf args).run P w=.ok (.enter gf args) w)
  {Mx:World->Prop} {N:Nat} {val:Nat->Array Value} (hps:∀k,(val k).size=ps.size) (hseq:X3 F (n - 1) P gf lb Mx N val w) (I:Nat->World->Prop) (hM:∀k A,I k A->Mx A) (hI:OwnFrom w.heap.size I) (h0:I 0 w) (a₁:Nat->Act)
  (hassign:∀(l k:Nat) (W:World) (K:Act->World->Prop),K (a₁ k) W->assign.wpIn (F.inRound l) (n - 1 - 1) P (Exit.then K (fun _ _ _=>False)) { tmps:=(ps.zip (val k)).foldl (fun t (p,v)=>t.setIfInBounds p v) a.tmps,defers:=[] } W)
  (hbody:∀(l k:Nat) (W:World),k<N->I k W->body.wpIn (F.inRound l) (n - 1 - 1) P (WS w.heap.size I k W) (a₁ k) W)
  (hdone:∀(D:Nat) (W:World),w.heap.size<=D->I N W->W.heap[D]?=some (.deferred (some []))->Q .normal { a with defers:={ target:=.collected D,args:=#[] }::a.defers } W) :
  (Code.rangeFunc g ps assign body).wpIn F n P Q a w:=by
 refine wpIn_rangeFunc fun fn hfn=>?_
 rw[hro]
 generalize hrc:(fun(st:LoopState) (pe:Option Code)=>({ state:=st,pending:=pe,fn,tmps:=a.tmps,params:=ps,assign,body,defers:=w.heap.size }:Loop))=rc
 obtain⟨W1,hW1⟩:∃W1,(w.alloc (.deferred (some []))).alloc (.loop (rc .ready none))=W1:=⟨_,rfl⟩
 have hb1:Below w.heap.size w W1:=by rw[<-hW1];exact(ag.alloc af _).alloc (by simp) _
 have hk1:W1.heap[w.heap.size]?=some (.deferred (some [])):=by rw[<-hW1];exact(Below.heap_alloc _ _ _ (by simp)).trans (aP w _)
 have hl1:W1.heap[w.heap.size+1]?=some (.loop (rc .ready none)):=by
  rw[<-hW1]
  have:=aP (w.alloc (.deferred (some []))) (.loop (rc .ready none))
  rwa[GL]at this
 have hi1:I 0 W1:=by rw[<-hW1];exact hI.alloc _ (hI.alloc _ h0)
 refine⟨w.heap.size+1,[{ target:=.collected w.heap.size,args:=#[] }],W1,{ target:=.fn (.func gf) lb,args:=#[.func (.yield (w.heap.size+1)) #[] #[]] },W1,gf,#[.func (.yield (w.heap.size+1)) #[] #[]]++lb,W1,?_,?_,?_,?_,fun _=>h1,?_⟩
 ·rw[<-hW1,<-hrc];exact run_enterLoop_outer _ _ _ _ _
 ·simp only[resolve,hg]
  simp[go_sem]
 ·intro f' hf'
  simp[Target.leads]at hf'
  subst hf'
  exact hFg
 ·simp[invoke,go_sem,eg]
 refine(hseq (w.heap.size+1) (fun k W=>I k W/\W.heap[w.heap.size+1]?=some (.loop (rc .ready none))/\W.heap[w.heap.size]?=some (.deferred (some []))) W1 hb1 (fun k A hj=>hM k A hj.1) (fun k A B hj hb=>⟨hI k A B none hj.1 (oJ hb none) (fun r e=>by cases e),az hb hj.2.1,az hb hj.2.2⟩) ?_ ⟨hi1,hl1,hk1⟩).mono ?_
 ·rintro k W hkN ⟨hi,hl,hk⟩
  have hlt:=(ZV.1 hl).1
  have hy:=run_yield (P:=P) (args:=val k) hl (by rw[<-hrc];exact hps k)
  obtain⟨Wb,hWb⟩:∃Wb,W.putObj (w.heap.size+1) (.loop { rc .ready none with state:=.busy })=Wb:=⟨_,rfl⟩
  have hlb:Wb.heap[w.heap.size+1]?=some (.loop { rc .ready none with state:=.busy }):=by rw[<-hWb];exact Xu hlt
  have hkb:Wb.heap[w.heap.size]?=some (.deferred (some [])):=by rw[<-hWb];exact(VQ (by omega)).trans hk
  have hib:I k Wb:=by rw[<-hWb];exact hI.putObj _ hi (by omega) hl rfl
  have hbeg:=run_beginRound (P:=P) hl (by rw[<-hrc])
  rw[hWb]at hbeg
  rw[<-hrc]at hy
  refine⟨fn,_,assign,body,hy,roundIn_of_wpIn hfn (hassign _ k W _ ⟨Wb,hbeg,?_⟩)⟩
  refine wpIn_mono (hbody _ k Wb hkN hib) ?_
  rintro e a3 W3 hp
  cases e with
  | normal=>
   obtain⟨hk3,hi3⟩:=hp
   have hl3:=hk3.same _ _ (by omega) hlb rfl
   have hd3:=hk3.same _ _ af hkb rfl
   have hend:=run_endRound (P:=P) none hl3
   have hst:({ rc .ready none with state:=(if (none:Option Code).isNone then LoopState.ready else .done),pending:=none }:Loop)=rc .ready none:=by rw[<-hrc];rfl
   refine⟨_,_,hend,rfl,hI.putObj _ hi3 (by omega) hl3 rfl,?_,(VQ (by omega)).trans hd3⟩
   rw[Xu (ZV.1 hl3).1,<-hst]
  | ret=>exact hp.elim
  | exit id=>exact hp.elim
  | goto t=>exact hp.elim
  | panic ch=>exact hp.elim
  | outgrown=>exact hp.elim
 ·rintro e W2 ⟨⟨v,rfl⟩,hi,hl,hk⟩
  have hend:=run_endLoop (P:=P) hl (by rw[<-hrc];simp)
  have hpe:(rc .ready none).pending=none:=by rw[<-hrc]
  rw[hpe]at hend
  exact⟨none,_,hend,hdone _ _ af (hI.putObj _ hi (by omega) hl rfl) ((VQ (by omega)).trans hk)⟩
end
end Go.Proofs.YtkldkhdigkpniaaGreatDoor
namespace Go.Proofs.YtkldkhdigkpniaaGreatDoor
open Go.RowKit Go.Proofs.Px Go.Shelf Go.Proofs.Tryz
attribute [local go_sem] Oper.semAt_some
theorem CK(x:aa)(h:10∉x):eG x=[x]:=by
 induction x with
 | nil=>rfl
 | cons c x ih=>
  rw[eG,if_neg (fun e=>h (by rw[e];exact List.mem_cons_self)),ih (fun e=>h (List.mem_cons_of_mem _ e))]
theorem Ug(r:aa)(h:10∈r):∃x t,r=x++10::t/\10∉x:=by
 induction r with
 | nil=>cases h
 | cons c r ih=>
  by_cases hc:c=10
  ·exact⟨[],r,by rw[hc];rfl,by simp⟩
  ·obtain⟨x,t,e,hx⟩:=ih (by rcases aac.1 h with h|h;exact absurd h.symm hc;exact h)
   exact⟨c::x,t,by rw[e];rfl,fun hh=>by rcases aac.1 hh with hh|hh;exact hc hh.symm;exact hx hh⟩
theorem Yv(r:aa):(10∉r/\Lib.cut r [10]=(r,[],false)/\eG r=[r])\/∃x t,Lib.cut r [10]=(x,t,true)/\eG r=x::eG t/\t.length<r.length:=by
 by_cases h:10∈r
 ·obtain⟨x,t,e,hx⟩:=Ug r h
  refine .inr ⟨x,t,?_,?_,?_⟩
  ·rw[e];exact xC x t 10 (fun c hc e=>hx (e▸hc))
  ·rw[e,Df,CK x hx];rfl
  ·rw[e,Z4,Z0];omega
 ·refine .inl ⟨h,?_,CK r h⟩
  exact EO r 10 (fun c hc e=>h (e▸hc))
theorem LC(s:ByteArray)(w:World):
  Calls prog 7 #[.string s] w fun e w'=>e=.returned (.func (.func 28) #[] #[.pointer (some ⟨w.heap.size,0,none⟩)])/\w'=w.alloc (uA s):=by
 have hmf:∀(fn:Fn) (first cap:Array Value) (w:World),(Instr.makeFunc fn first cap).run prog w=.ok (.func fn first cap) w:=fun _ _ _ _=>rfl
 go_enter func7,ntmps7
 go_wp2
 go_ret
 exact⟨rfl,rfl⟩
def qU(L:List (aa))(k:Nat):ByteArray:=⟨(L[k]?.getD []).toArray⟩
theorem Rp(rs x t:ByteArray)(f:Bool)(L:List (aa))(k:Nat)(h:eG rs.data.toList=L.drop k)(hc:Lib.cut rs.data.toList [10]=(x.data.toList,t.data.toList,f)):
  k<L.length/\x=qU L k/\((f=true/\eG t.data.toList=L.drop (k+1)/\t.size<rs.size)\/(f=false/\k+1=L.length/\t.size=0)):=by
 have key:∀(y:aa) (ys:List (aa)),L.drop k=y::ys->k<L.length/\(⟨y.toArray⟩:ByteArray)=qU L k/\L.drop (k+1)=ys:=by
  intro y ys e
  have hk:k<L.length:=by
   rcases Nat.lt_or_ge k L.length with h'|h'
   ·exact h'
   ·rw[List.drop_of_length_le h']at e;cases e
  rw[List.drop_eq_getElem_cons hk]at e
  injection e with e1 e2
  refine⟨hk,?_,e2⟩
  unfold qU
  rw[Z6 hk,Option.getD_some,e1]
 rcases Yv rs.data.toList with⟨_,h1,h2⟩|⟨y,z,h1,h2,h3⟩
 ·rw[h1]at hc
  simp only[Prod.mk.injEq]at hc
  obtain⟨e1,e2,rfl⟩:=hc
  rw[h2]at h
  obtain⟨hk,a,c⟩:=key _ _ h.symm
  refine⟨hk,?_,.inr ⟨rfl,?_,?_⟩⟩
  ·rw[<-a];exact aF e1.symm
  ·have:=congrArg List.length c
   rw[List.length_drop,Z5]at this
   omega
  ·rw[<-ae,<-e2];rfl
 ·rw[h1]at hc
  simp only[Prod.mk.injEq]at hc
  obtain⟨rfl,rfl,rfl⟩:=hc
  rw[h2]at h
  obtain⟨hk,a,c⟩:=key _ _ h.symm
  refine⟨hk,?_,.inl ⟨rfl,c.symm,?_⟩⟩
  ·rw[<-a]
  ·rw[<-ae,<-ae rs];exact h3
def Ta:Value->Nat
 | .string s=>s.size
 | _=>0
def Uw:Value->Nat
 | .bool true=>1
 | _=>0
theorem Y8(s:ByteArray)(hs:s.size<=30000)(b n:Nat)(hn:1<=n)(w:World)(hb:w.heap[b]?=some (uA s)):
  X3 Fence.wide n prog 28 #[.pointer (some ⟨b,0,none⟩)] Max (pq s.data.toList).length (fun k=>#[.string (qU (pq s.data.toList) k)]) w:=by
 intro l J W hW hM hJ hY h0
 have hc:=(jS (az hW hb)).1
 obtain⟨L,HL⟩:∃L,Box (pq s.data.toList=L):=⟨_,⟨rfl⟩⟩
 have HY:=Box.m hY
 rw[HL.o]at HY
 rw[HL.o]
 have hts:(ByteArray.mk (Lib.trimSuffix s.data.toList [10]).toArray).size<=30000:=by
  rw[<-ae]
  show(Lib.trimSuffix s.data.toList [10]).length<=_
  have:=ae s
  unfold Lib.trimSuffix
  split
  ·rw[aad];omega
  ·omega
 have HT:=Box.m (Tryz.strings_TrimSuffix s ⟨#[10]⟩ W (by omega))
 have HS:Box (eG (ByteArray.mk (Lib.trimSuffix s.data.toList [10]).toArray).data.toList=L):=⟨HL.o⟩
 rw[show(⟨#[10]⟩:ByteArray).data.toList=[10]from rfl]at HT
 generalize (ByteArray.mk (Lib.trimSuffix s.data.toList [10]).toArray)=r0 at HT HS hts
 have H0:=Box.m h0
 have HJ:=Box.m hJ
 have HM:=Box.m hM
 clear hY hs HL hJ hM h0 hb hW
 refine callsIn_of_wp func28 rfl trivial ?_ rfl
 simp only[ntmps28,aae,Z0,Z5,Nat.reduceAdd,Nat.reduceSub,ZX,ZY,aaf,aag,aah,aai]
 gi_wp2_with (refine⟨trivial,?_⟩;gi_at_call 29;refine(callsIn_wide.2 HT.o).mono ?_;rintro e w' ⟨rfl,hw'⟩;obtain rfl:=hw'.symm)
 clear HT hc
 gi_loopw [3,4] (fun r m wr=>∃(k:Nat) (rs:ByteArray),rs.size<=30000/\r=.string rs/\((m=.bool true/\Box (eG rs.data.toList=L.drop k))\/(m=.bool false/\k=L.length))/\Box (J k wr)) (fun r m _=>Ta r+Uw m)
 case atStart=>exact⟨0,r0,hts,rfl,.inl ⟨rfl,⟨HS.o⟩⟩,H0⟩
 case round=>
  obtain⟨k,rs,hrs,rfl,hm,hJk⟩:=hrel
  rcases hm with⟨rfl,HSp⟩|⟨rfl,rfl⟩
  ·have HC:=Box.m (qL rs ⟨#[10]⟩ wr (by omega) (HM.o k wr hJk.o))
   gi_wp2_with (refine⟨trivial,?_⟩;gi_at_call 30;refine(callsIn_wide.2 HC.o).mono ?_;rintro e w5 ⟨x,t,f,rfl,hcut,hx,ht,hb5⟩;obtain⟨hk,hxl,hnx⟩:=Rp rs x t f L k HSp.o hcut;have HNx:=Box.m hnx;obtain⟨fn,tm,asg,bo,hy,hR⟩:=HY.o k w5 hk (HJ.o k wr w5 hJk.o hb5);rw[<-hxl]at hy;clear hcut hxl hnx)
   refine hR.mono ?_
   rintro e W3 ⟨rfl,hJ3⟩
   have HJ3:=Box.m hJ3
   have hts2:t.size<=30000:=by omega
   rcases HNx.o with⟨rfl,hsp,hlt⟩|⟨rfl,hkl,ht0⟩
   ·have HSp2:=Box.m hsp
    clear hR hy hsp hJ3 HNx
    gi_wp2
    go_roundw
    case rel=>exact⟨k+1,t,hts2,rfl,.inl ⟨rfl,HSp2⟩,HJ3⟩
    case measure=>simp[Ta,Uw];omega
   ·clear hR hy hJ3 HNx
    gi_wp2
    go_roundw
    case rel=>exact⟨k+1,t,hts2,rfl,.inr ⟨rfl,hkl⟩,HJ3⟩
    case measure=>simp[Ta,Uw,ht0]
  ·gi_wp2
   go_end0
   exact⟨⟨_,rfl⟩,hJk.o⟩
end Go.Proofs.YtkldkhdigkpniaaGreatDoor
namespace Go.Proofs.YtkldkhdigkpniaaGreatDoor
open Go.RowKit Go.Proofs.Px Go.Proofs.Tryz
theorem FL.kc{Xf:Nat->Prop}{w w':World}{v:Value}{L:List Fl}(h:FL w v L)(ho:R8 Xf v)(hk:∀p u,w.cell? p=some u->¬Xf p.block->w'.cell? p=some u):FL w' v L:=by
 obtain⟨A,cap,rfl,hc,h1⟩:=h
 refine⟨A,cap,rfl,hc,fun k hkl=>?_⟩
 obtain⟨b,off,e,c0,c1⟩:=h1 k hkl
 have hn:¬Xf b:=ho A L.length cap rfl b off e (by omega)
 exact⟨b,off,e,hk _ _ c0 hn,hk _ _ c1 hn⟩
theorem BN.kc{Xf:Nat->Prop}{w w':World}{b:Nat}{hv:Value}{hl:List Fl}{A:Option Addr}{cap:Nat}{ps:List XP}{root:Nat}(h:BN w b hv hl A cap ps root)(ho:Off Xf b hv A ps)(hk:∀p u,w.cell? p=some u->¬Xf p.block->w'.cell? p=some u):BN w' b hv hl A cap ps root:=by
 refine⟨hk _ _ h.c0 ho.b0,hk _ _ h.c1 ho.b0,hk _ _ h.c2 ho.b0,h.cap,h.hf.kc ho.hv hk,h.hs,⟨fun k hkl=>?_,fun p hp=>?_,h.xl.len⟩,h.rt⟩
 ·obtain⟨g,off,e,x⟩:=h.xl.at_ k hkl
  have hn:¬Xf g:=ho.A0 g off e
  exact⟨g,off,e,⟨hk _ _ x.c0 hn,hk _ _ x.c1 hn,hk _ _ x.c2 hn,hk _ _ x.c3 hn,hk _ _ x.c4 hn,hk _ _ x.c5 hn,hk _ _ x.c6 hn,hk _ _ x.c7 hn,hk _ _ x.c8 hn,hk _ _ x.c9 hn,hk _ _ x.ca hn⟩⟩
 ·have hs:=h.xl.sm p hp
  exact⟨hs.fl.kc (ho.ps p hp) hk,hs.hs,hs.bs,hs.is,hs.ad⟩
theorem Off.mono{Xf Yf:Nat->Prop}{b:Nat}{hv:Value}{A:Option Addr}{ps:List XP}(ho:Off Xf b hv A ps)(hY:∀i,Yf i->Xf i):Off Yf b hv A ps:=
 ⟨fun x=>ho.b0 (hY _ x),fun A n c e b off e0 hn x=>ho.hv A n c e b off e0 hn (hY _ x),fun g off e x=>ho.A0 g off e (hY _ x),fun p hp A n c e b off e0 hn x=>ho.ps p hp A n c e b off e0 hn (hY _ x)⟩
theorem DS.kc{Xf Yf:Nat->Prop}{w w':World}{d:Nat}{σ:Dk}(h:DS Xf w d σ)(hd:w'.heap[d]?=w.heap[d]?)(hY:∀i,Yf i->Xf i)(hk:∀p u,w.cell? p=some u->¬Yf p.block->w'.cell? p=some u):DS Xf w' d σ:=by
 obtain⟨t,q,h1,h2,h3,h4⟩:=h.blk
 refine⟨t,q,hd.trans h1,h2,h3,fun bb hbb=>?_⟩
 obtain⟨b,hv,hl,A,cap,ps,root,e,h5,h6,h7,h8⟩:=h4 bb hbb
 exact⟨b,hv,hl,A,cap,ps,root,e,h5.kc (h8.mono hY) hk,h6,h7,h8⟩
theorem FL.shift{Xf Yf:Nat->Prop}{w:World}{v:Value}{L:List Fl}(h:FL w v L)(ho:R8 Xf v)(hY:∀i,Yf i->Xf i\/w.heap.size<=i):R8 Yf v:=by
 obtain⟨A,cap,rfl,hc,h1⟩:=h
 intro A' n c e b off e0 hn x
 injection e with e1 e2 e3
 subst e1;subst e2;subst e3
 obtain⟨b',off',e',c0,_⟩:=h1 0 hn
 have hb:b=b':=by
  rw[e0]at e'
  injection e' with e''
  injection e''
 have hlt:b<w.heap.size:=by rw[hb];exact Ws w _ c0
 rcases hY b x with hx|hx
 ·exact ho _ _ _ rfl b off e0 hn hx
 ·omega
theorem DS.shift{Xf Yf:Nat->Prop}{w:World}{d:Nat}{σ:Dk}(h:DS Xf w d σ)(hY:∀i,Yf i->Xf i\/w.heap.size<=i):DS Yf w d σ:=by
 obtain⟨t,q,h1,h2,h3,h4⟩:=h.blk
 refine⟨t,q,h1,h2,h3,fun bb hbb=>?_⟩
 obtain⟨b,hv,hl,A,cap,ps,root,e,h5,h6,h7,h8⟩:=h4 bb hbb
 refine⟨b,hv,hl,A,cap,ps,root,e,h5,h6,h7,⟨fun x=>?_,h5.hf.shift h8.hv hY,fun g off e x=>?_,fun p hp=>(h5.xl.sm p hp).fl.shift (h8.ps p hp) hY⟩⟩
 ·have hlt:b<w.heap.size:=Ws w _ h5.c0
  rcases hY b x with hx|hx
  ·exact h8.b0 hx
  ·omega
 ·obtain⟨g',off',e',xc⟩:=h5.xl.at_ 0 (by have:=h5.rt;omega)
  have hg:g=g':=by
   rw[e]at e'
   injection e' with e''
   injection e''
  have hlt:g<w.heap.size:=by rw[hg];exact Ws w _ xc.c0
  rcases hY g x with hx|hx
  ·exact h8.A0 g off e hx
  ·omega
theorem DS.walk{Xf:Nat->Prop}{w w':World}{d:Nat}{σ:Dk}{row:Option Nat}(h:DS Xf w d σ)(hg:w.grownBy w' row)(hr:∀r,row=some r->∃o:Obj,w.heap[r]?=some o/\o.isCells=false):DS Xf w' d σ:=by
 obtain⟨t,q,h1,_⟩:=_root_.id h.blk
 exact h.kc (Yf:=fun _=>False) (grownBy_keeps_cells hg hr h1 rfl) (fun _ x=>x.elim) (fun p u hc _=>cell_kept hc hg hr)
structure BL(w:World)(b:Nat)(r:Value)(bs:List Value):Prop where
 blk:∃p,(p=.pointer none\/p=.pointer (some ⟨b,0,none⟩))/\w.heap[b]?=some (.cells #[p,r] 34 (0,0))
 row:w.ownsRow b 5 1 r bs.length bs
 ne:r.ownBlock≠some b
def XB(b:Nat)(r:Value)(i:Nat):Prop:=i=b\/r.ownBlock=some i
theorem BL.lt{w:World}{b:Nat}{r:Value}{bs:List Value}(h:BL w b r bs):∀i,XB b r i->b<=i/\i<w.heap.size:=by
 rintro i (rfl|hi)
 ·obtain⟨p,_,hb⟩:=h.blk
  exact⟨aao _,(ZV.1 hb).1⟩
 ·exact h.row.lt i hi
theorem BL.kept{w w':World}{b:Nat}{r:Value}{bs:List Value}(h:BL w b r bs)(hk:∀i,XB b r i->w'.heap[i]?=w.heap[i]?):BL w' b r bs:=by
 obtain⟨p,hp,hb⟩:=h.blk
 refine⟨⟨p,hp,(hk b (.inl rfl)).trans hb⟩,⟨h.row.1,?_⟩,h.ne⟩
 rcases h.row.2 with hn|⟨g,cap,cur,hr,hbg,hgg,rest⟩
 ·exact .inl hn
 ·exact .inr ⟨g,cap,cur,hr,hbg,(hk g (.inr (by rw[hr];rfl))).trans hgg,rest⟩
theorem BL.cells{w:World}{b:Nat}{r:Value}{bs:List Value}(h:BL w b r bs):∀i,XB b r i->∃o:Obj,w.heap[i]?=some o/\o.isCells=true:=by
 rintro i (rfl|hi)
 ·obtain⟨p,_,hb⟩:=h.blk
  exact⟨_,hb,rfl⟩
 ·rcases h.row.2 with⟨rfl,_⟩|⟨g,cap,cur,rfl,hbg,hgg,rest⟩
  ·cases hi
  ·cases hi
   exact⟨_,hgg,rfl⟩
theorem BL.walk{w w':World}{b:Nat}{r:Value}{bs:List Value}{row:Option Nat}(h:BL w b r bs)(hg:w.grownBy w' row)(hr:∀r,row=some r->∃o:Obj,w.heap[r]?=some o/\o.isCells=false):BL w' b r bs:=
 h.kept fun i hi=>by
  obtain⟨o,ho,hc⟩:=h.cells i hi
  exact grownBy_keeps_cells hg hr ho hc
theorem BL.is{w:World}{b:Nat}{r:Value}{bs:List Value}(h:BL w b r bs):Lib.IsBuilder 34 5 b b bs w:=by
 obtain⟨p,hp,hb⟩:=h.blk
 rcases hp with rfl|rfl
 ·exact .inl ⟨aao _,r,hb,h.row,h.ne⟩
 ·exact .inr ⟨aao _,r,hb,h.row,h.ne⟩
theorem EE{P:Program}(w:World)(base:Nat)(t u ty e:TypeId)(i:TypeInfo)(ht:P.underlying t=some (.slice e))(hu:P.underlying u=some .string)(hi:P.info? e=some i)(hz:i.zero=some (.int .u8 0))
  (hsize:i.size=1) (hby:i.bytes=1) (v:Value) (n:Nat) (xs:List Value) (hown:w.ownsRow base e 1 v n xs) (s:ByteArray) (h0:0<s.size)
  (h63:n+s.size<=maxLen) (hbytes:n+s.size<=140737488355328) (v':Value) (w':World) (hr:(Builtin.append_ #[t,u] ty #[v,.string s]).run P w=.ok v' w'):v'.ownBlock=v.ownBlock\/v'.ownBlock=some w.heap.size:=by
 have hsmall:n+s.size<=9223372036854775807:=by simp only[maxLen]at h63;omega
 have hxl:xs.length=n:=by simpa using hown.1
 rcases hown.2 with⟨rfl,rfl⟩|⟨g,cap,cur,rfl,hbg,hg,hnc,hcm,hcs,htake⟩
 ·have h2:=run_append_nil_string (P:=P) w t u ty e i (.int .u8 0) ht hu hi hz s (by omega) (by omega) (by rw[hby];omega)
  rw[h2]at hr
  injection hr with e1 e2
  rw[<-e1]
  exact .inr rfl
 ·by_cases hroom:n+s.size<=cap
  ·have hcs':cur.size=cap:=by simpa using hcs
   have h2:=Lib.run_append_room_string (P:=P) w t u ty e i ht hu hi hsize g n cap cur hg s hroom (by omega)
   rw[h2]at hr
   injection hr with e1 e2
   rw[<-e1]
   exact .inl rfl
  ·have holds:∀j u,xs[j]?=some u->w.cell? ((⟨g,0,none⟩:Addr).add j)=some u:=hown.cells (g:=g) rfl
   have h2:=Lib.run_append_grow_string (P:=P) w t u ty e i (.int .u8 0) ht hu hi hz ⟨g,0,none⟩ n cap xs (by rw[hsize];simpa using hxl) holds s (by omega) (by omega) (by rw[hby];exact growslice_fits (by omega) (by omega))
   rw[h2]at hr
   injection hr with e1 e2
   rw[<-e1]
   exact .inr rfl
section
variable {ops:Array Oper} {rest:List Oper} {o:Oper} {a:Act} {Q:Exit->Act->World->Prop}
theorem WW(W:World)(hgd:o.guard=none)(sl x:Operand)(ho:o.op=.call { callee:=.builtin .append,args:=#[sl,x],argTypes:=#[32,9] })
  (B:Nat) (v:Value) (bs:List Value) (hs:a.eval sl=v) (hown:W.ownsRow B 5 1 v bs.length bs) (t:ByteArray) (hx:a.eval x=.string t) (h0:0<t.size) (hl:bs.length+t.size<=140737488355328) (hB:B<=W.heap.size)
  (h:∀v' w',w'.ownsRow B 5 1 v' (bs++Lib.strCells t).length (bs++Lib.strCells t)->W.grownBy w' v.ownBlock->(v'.ownBlock=v.ownBlock\/v'.ownBlock=some W.heap.size)->wpList prog ops Q rest (a.put o.dst v') w'):wpList prog ops Q (o::rest) a W:=by
 obtain⟨i0,hi,hz0,hz1,hz2⟩:=info_parts Tryz.infoByte
 refine wpList_plain hgd fun K hK=>?_
 obtain⟨v',w',hr,h2,h3,_⟩:=Lib.run_append_own_string (P:=prog) W B 32 9 o.type 5 i0 underlying32 underlying9 hi hz0 hz1 hz2 v bs.length bs hown t (by unfold maxLen;omega) hl hB
 have hblk:=EE (P:=prog) W B 32 9 o.type 5 i0 underlying32 underlying9 hi hz0 hz1 hz2 v bs.length bs hown t h0 (by unfold maxLen;omega) hl v' w' hr
 unfold Oper.wp execOp
 simp only[ho,resolve,invoke,builtin,Sem.run_bind,Sem.run_pure,Result.andThen_ok,List.map_toArray,Z9,aaj,hs,hx,hr]
 refine hK _ _ (h v' w' ?_ h3 hblk)
 rw[Z4,Lib.strCells_length]
 exact h2
end
def NW:List PB->Nat
 | []=>0
 | p::l=>p.1.length+p.2.length+NW l
theorem JZ(p:PB):(jE p).length<=5+2*(p.1.length+p.2.length):=by
 have:=JX p.2
 unfold jE
 simp only[Z4,Z0,Z5]
 omega
theorem IV(m:aa)(l:List PB):(eQ m l).length<=m.length+5*l.length+2*NW l:=by
 unfold eQ
 rw[Z4]
 have:(l.flatMap jE).length<=5*l.length+2*NW l:=by
  induction l with
  | nil=>exact aao _
  | cons p l ih=>
   have h1:=JZ p
   rw[List.flatMap_cons,Z4,Z0,NW]
   omega
 omega
theorem JQ:∀(k:Nat) (l:aa) (x:List PB),bS k l=some x->NW x+x.length<=l.length:=by
 intro k
 induction k with
 | zero=>
  intro l x h
  unfold bS at h
  split at h
  ·cases h;exact aap _
  ·cases h
 | succ k ih=>
  intro l x h
  by_cases h0:l=[]
  ·rw[h0,Bn]at h
   cases h
   exact aap _
  ·by_cases h1:l.head?=some 59
   ·cases l with
    | nil=>exact absurd rfl h0
    | cons c r=>
     simp only[List.head?_cons,Option.some.injEq]at h1
     subst h1
     cases hq:xM r with
     | none=>rw[zH _ _ hq]at h;cases h
     | some q=>
      obtain⟨p,u⟩:=q
      rw[zY _ _ _ _ hq]at h
      cases hx:bS k u with
      | none=>rw[hx]at h;cases h
      | some y=>
       rw[hx]at h
       simp only[aas,Option.some.injEq]at h
       subst h
       have h2:=ih u y hx
       have h3:=Ph _ _ _ hq
       simp only[NW,Z0]
       omega
   ·rw[Dp _ _ h0 h1]at h
    cases h
theorem NM(s m:aa)(x:List PB)(h:eO s=some (m,x)):m.length<=s.length/\NW x+x.length<=s.length:=by
 unfold eO at h
 split at h
 ·cases hp:bS s.length (s.dropWhile (· != 59))with
  | none=>rw[hp]at h;cases h
  | some y=>
   rw[hp]at h
   simp only[aas,Option.some.injEq,Prod.mk.injEq]at h
   obtain⟨rfl,rfl⟩:=h
   have h1:=JQ _ _ _ hp
   have h2:(s.takeWhile (· != 59)).length+(s.dropWhile (· != 59)).length=s.length:=by
    conv=>rhs;rw[<-List.takeWhile_append_dropWhile (p:=(· != 59)) (l:=s),Z4]
   have h3:=pK (s.takeWhile (· != 59))
   have h4:(ah (trimS (s.takeWhile (· != 59)))).length=(trimS (s.takeWhile (· != 59))).length:=by simp[ah]
   omega
 ·cases h
structure SmB(bb:BB):Prop where
 n:bb.ps.length<=60
 rt:bb.root<bb.ps.length
 ps:∀p∈bb.ps,p.body.length<=3000/\p.head.length<=100000/\∃loc:AV,loc.Small 270000/\loc.ab=p.loc
def SmD(σ:Dk):Prop:=∀bb,σ.bd=some bb->SmB bb
theorem DS.sm{Xf:Nat->Prop}{w:World}{d:Nat}{σ:Dk}(h:DS Xf w d σ):SmD σ:=by
 intro bb hbb
 obtain⟨t,q,h1,h2,h3,h4⟩:=h.blk
 obtain⟨b,hv,hl,A,cap,ps,root,e,h5,h6,h7,h8⟩:=h4 bb hbb
 refine⟨h7.n,by rw[h6];simpa using h5.rt,fun p hp=>⟨(h7.ps p hp).2.2,?_⟩⟩
 rw[h6]at hp
 obtain⟨x,hx,rfl⟩:=Z7.1 hp
 have hs:=h5.xl.sm x hx
 exact⟨by have:=hs.hs.1;simpa[XP.bp]using this,x.loc,hs.ad,rfl⟩
theorem Oa(loc:AV)(hp:loc.Small 270000)(v:aa)(hv:v.length<=3000)(x:AB)(hr:bM v=some x):(bQ (jv loc.ab x)).length<=2700010:=by
 have h1:=nV hp (pR (mX v x hr) (by omega:v.length<=270000))
 have h2:=j3 _ _ h1
 rw[<-ae]at h2
 have e:(iG (qw loc (AV.of x))).data.toList=bQ (jv loc.ab x):=by
  show bQ (qw loc (AV.of x)).ab=_
  rw[qW,nS]
 rw[e]at h2
 omega
theorem Xy(loc:AV)(hp:loc.Small 270000):(bQ loc.ab).length<=2700010:=by
 have h2:=j3 _ _ hp
 rw[<-ae]at h2
 have e:(iG loc).data.toList=bQ loc.ab:=rfl
 rw[e]at h2
 omega
theorem O9(o:Option Nat)(n:Nat)(h:∀i,o=some i->i<n)(hn:n<=60):(Lib.itoa (nO o)).length<=21:=by
 refine Lib.itoa_length_le _ ?_ ?_
 ·cases o with
  | none=>decide
  | some i=>simp only[nO];omega
 ·cases o with
  | none=>decide
  | some i=>have:=h i rfl;simp only[nO];omega
def ShX(O:eU):Prop:=∀t,O=.ok t->t.length<=30000000000
theorem zN(t:aa)(h:t.length<=30000000000):ShX (.ok t):=fun c e=>by cases e;exact h
theorem lm(c:Nat):ShX (.error c):=fun t e=>by cases e
theorem yn(t:aa)(h:t.length<=1000000):ShX (.ok (ed t)):=zN _ (by have:=gH t;omega)
theorem Te(t:aa)(h:t.length<=10000000):ShX (.ok (isW t)):=zN _ (by unfold isW;rw[Z4];simp only[Z0,Z5];omega)
theorem yG(w:aa)(xs:List (aa))(m n:Nat)(hw:w.length<=10)(h:∀x∈xs,x.length<=m)(hn:xs.length<=n)(hmn:n*(m+2)<=29000000000):ShX (.ok (iq w xs)):=zN _ (by
 have:=Ay xs m n h hn
 unfold iq
 simp only[Z4,Z0,Z5]
 omega)
theorem Br(ws:List (aa))(r:eU)(h:ShX r):ShX (rT ws r):=by
 unfold rT
 split
 ·exact h
 ·exact lm 3
theorem xz(ws:List (aa))(hl:fO ws<=3000)(f:aa->eU)(h:∀a,a.length<=3000->ShX (f a)):ShX (nC ws f):=by
 unfold nC
 split
 ·rename_i a
  exact h a (by rw[gQ]at hl;omega)
 ·exact lm 3
theorem SL(ws:List (aa))(hl:fO ws<=3000)(f:aa->aa->eU)(h:∀a b,a.length<=3000->b.length<=3000->ShX (f a b)):ShX (tZ ws f):=by
 unfold tZ
 split
 ·rename_i a b
  rw[gQ,gQ]at hl
  exact h a b (by omega) (by omega)
 ·exact lm 3
theorem sF(σ:Dk)(hs:SmD σ)(f:BB->eU)(h:∀b,SmB b->ShX (f b)):ShX (dR σ f):=by
 unfold dR
 cases hb:σ.bd with
 | none=>exact lm 7
 | some b=>exact h b (hs b hb)
theorem y9(w:aa)(f:AB->eU)(h:∀x,bM w=some x->ShX (f x)):ShX (dQ w f):=by
 unfold dQ
 cases hr:bM w with
 | none=>exact lm 3
 | some x=>exact h x hr
theorem zT(w:aa)(f:Int->eU)(h:∀b,ShX (f b)):ShX (lN w f):=by
 unfold lN
 split
 ·exact lm 3
 ·exact h _
theorem UM(b:BB):ShX (oL b):=by
 unfold oL
 cases hr:sw (dY 4 0 (nu b (BO (lq b))))with
 | error c=>exact lm c
 | ok t=>exact yn t (by have:=Fp _ _ hr;omega)
theorem KX{b:BB}{i:Int}{p:BP}(h:fE b i=some p):p∈b.ps:=by
 unfold fE at h
 split at h
 ·exact List.mem_of_getElem? h
 ·cases h
theorem TA(b:BB)(hb:SmB b)(p:BP)(hp:p∈b.ps):ShX (.ok (iq DK ((jD b.ps p).map tL))):=by
 obtain⟨h1,_,loc,h3,h4⟩:=hb.ps p hp
 refine yG DK _ 8100054 3001 (by decide) ?_ ?_ (by decide)
 ·intro x hx
  obtain⟨l,hl,rfl⟩:=Z7.1 hx
  unfold jD at hl
  obtain⟨v,hv,rfl⟩:=Z7.1 hl
  have hv2:v.length<=3000:=by
   unfold dO at hv
   split at hv
   ·have:=pQ _ v hv
    omega
   ·cases hv
  have ha:(iJ b.ps p.loc v).1.length<=2700010:=by
   unfold iJ
   cases hr:bM v with
   | none=>simp only;omega
   | some x=>simp only;rw[<-h4];exact Oa loc h3 v hv2 x hr
  have hi:=O9 (iJ b.ps p.loc v).2 b.ps.length (fun i hi=>CR hi) hb.n
  have:=gH (iJ b.ps p.loc v).1
  unfold tL
  simp only[Z4,Z0,Z5]
  omega
 ·rw[Z8]
  unfold jD dO
  rw[Z8]
  split
  ·unfold um
   rw[Z8,gT]
   have:=jZ none _ _ _ (fV p.body)
   omega
  ·exact aap _
theorem VG(J:aa)(hj:J.length<=3000):ShX (.ok (iq tu ((aC 0 (nD J)).map vD))):=by
 refine yG tu _ 18100 6000 (by decide) ?_ ?_ (by decide)
 ·intro x hx
  obtain⟨q,hq,rfl⟩:=Z7.1 hx
  have h1:=qi (nD J) 0 (tlP J) q hq
  have h2:=(lD J (nD J) (tlP J) (fV J) []).1
  rw[<-h2]at h1
  have h3:=pQ J q.2.2 (List.mem_map_of_mem (f:=fun q:Nat×Nat×aa=>q.2.2) hq)
  have a0:=kw q.1 (by omega)
  have a1:=kw q.2.1 (by omega)
  have a2:=gH q.2.2
  unfold vD
  simp only[Z4,Z0,Z5]
  omega
 ·rw[Z8,gT]
  have:=jZ none _ _ _ (fV J)
  omega
theorem R7(b:BB)(hb:SmB b):ShX (.ok (iq oZ (b.ps.map oC))):=by
 refine yG oZ _ 9100 60 (by decide) ?_ (by rw[Z8];exact hb.n) (by decide)
 intro x hx
 obtain⟨p,hp,rfl⟩:=Z7.1 hx
 obtain⟨h1,h2,_⟩:=hb.ps p hp
 have a0:=kw p.head.length (by omega)
 have a2:=gH p.body
 unfold oC
 simp only[Z4,Z0,Z5]
 omega
theorem Xr(J:aa)(hj:J.length<=3000):ShX (match eO J with|none=>.error 3|some q=>.ok (eQ q.1 q.2)):=by
 cases hr:eO J with
 | none=>exact lm 3
 | some q=>
  obtain⟨m,x⟩:=q
  obtain⟨h1,h2⟩:=NM J m x hr
  have:=IV m x
  exact zN _ (by simp only;omega)
theorem IA(o:Option (aa))(h:∀b,o=some b->b.length<=3000):ShX (F4 o):=by
 cases o with
 | none=>exact lm 3
 | some b=>exact yn b (by have:=h b rfl;omega)
theorem U0(σ:Dk)(w:aa)(ws:List (aa))(O:eU)(σ':Dk)(h:nk σ w ws=some (O,σ'))(hs:SmD σ)(hs':SmD σ')(hl:fO ws<=3000):ShX O/\(σ'.added.length<=σ.added.length\/(w=DU/\σ'.added.length=σ.added.length+((dL ws).length+2))):=by
 have hj:=jb hl
 have pr:∀{r:eU},some (r,σ)=some (O,σ')->ShX r->ShX O/\(σ'.added.length<=σ.added.length\/(w=DU/\σ'.added.length=σ.added.length+((dL ws).length+2))):=fun e hr=>by
  obtain⟨rfl,rfl⟩:=Prod.mk.inj (Option.some.inj e)
  exact⟨hr,.inl af⟩
 unfold nk at h
 by_cases h0:w=DU
 ·rw[if_pos h0]at h
  obtain⟨rfl,rfl⟩:=Prod.mk.inj (Option.some.inj h)
  exact⟨zN _ (by decide),.inr ⟨h0,by simp⟩⟩
 rw[if_neg h0]at h
 by_cases h1:w=wAt
 ·rw[if_pos h1]at h
  exact pr h (xz _ hl _ fun a _=>sF _ hs _ fun b hb=>zT _ _ fun i=>by
   cases hp:fE b i with
   | none=>exact lm 2
   | some p=>
    obtain⟨_,_,loc,k1,k2⟩:=hb.ps p (KX hp)
    have:=Xy loc k1
    rw[k2]at this
    exact Te _ (by omega))
 rw[if_neg h1]at h
 by_cases h2:w=OB
 ·rw[if_pos h2]at h
  exact pr h (Br _ _ (sF _ hs _ fun b _=>UM b))
 rw[if_neg h2]at h
 by_cases h3:w=OU
 ·rw[if_pos h3]at h
  exact pr h (xz _ hl _ fun a ha=>Te _ (by have:=mG a;omega))
 rw[if_neg h3]at h
 by_cases h4:w=Oh
 ·rw[if_pos h4]at h
  exact pr h (xz _ hl _ fun a _=>sF _ hs _ fun b hb=>y9 _ _ fun x _=>zN _ (by have:=O9 (jU b.ps x) b.ps.length (fun i hi=>xE _ _ _ hi) hb.n;omega))
 rw[if_neg h4]at h
 by_cases h5:w=OW
 ·rw[if_pos h5]at h
  exact pr h (Br _ _ (zN _ (by decide)))
 rw[if_neg h5]at h
 by_cases h6:w=OT
 ·rw[if_pos h6]at h
  exact pr h (Xr _ hj)
 rw[if_neg h6]at h
 by_cases h7:w=O7
 ·rw[if_pos h7]at h
  exact pr h (xz _ hl _ fun a _=>sF _ hs _ fun b hb=>zT _ _ fun i=>by
   cases hp:fE b i with
   | none=>exact lm 2
   | some p=>exact TA b hb p (KX hp))
 rw[if_neg h7]at h
 by_cases h8:w=tu
 ·rw[if_pos h8]at h
  exact pr h (VG _ hj)
 rw[if_neg h8]at h
 by_cases h9:w=JY
 ·rw[if_pos h9]at h
  split at h
  ·cases hr:oF σ.added with
   | error c=>
    rw[hr]at h
    obtain⟨rfl,rfl⟩:=Prod.mk.inj (Option.some.inj h)
    exact⟨lm c,.inl (aap _)⟩
   | ok b=>
    rw[hr]at h
    obtain⟨rfl,rfl⟩:=Prod.mk.inj (Option.some.inj h)
    have hb:=hs' b rfl
    have a0:=kw b.ps.length (by have:=hb.n;omega)
    have a1:=kw b.root (by have:=hb.n;have:=hb.rt;omega)
    exact⟨zN _ (by simp only[Z4,Z0,Z5];omega),.inl (aap _)⟩
  ·exact pr h (lm 3)
 rw[if_neg h9]at h
 by_cases h10:w=F7
 ·rw[if_pos h10]at h
  exact pr h (yn _ (by have:=DF (dL ws);omega))
 rw[if_neg h10]at h
 by_cases h11:w=oZ
 ·rw[if_pos h11]at h
  exact pr h (Br _ _ (sF _ hs _ fun b hb=>R7 b hb))
 rw[if_neg h11]at h
 by_cases h12:w=Hf
 ·rw[if_pos h12]at h
  exact pr h (yn _ (by have:=zi (dL ws);omega))
 rw[if_neg h12]at h
 by_cases h13:w=qo
 ·rw[if_pos h13]at h
  exact pr h (SL _ hl _ fun a b ha hb=>y9 _ _ fun x hx=>y9 _ _ fun y hy=>Te _ (by
   have:=Oa (AV.of x) (pR (mX a x hx) (by omega)) b hb y hy
   rw[nS]at this
   omega))
 rw[if_neg h13]at h
 by_cases h14:w=AZ
 ·rw[if_pos h14]at h
  exact pr h (IA _ fun b hb=>aan (tC _ b hb) hj)
 rw[if_neg h14]at h
 by_cases h15:w=xJ
 ·rw[if_pos h15]at h
  exact pr h (IA _ fun b hb=>aan (rq _ b hb) hj)
 rw[if_neg h15]at h
 cases h
theorem EI(c:Nat)(h:c<=1000):(nE c).length<=16:=by
 have:=kw c (by omega)
 unfold nE
 simp only[Z4,Z0,Z5]
 omega
theorem Nn(σ:Dk)(line:aa)(hs:SmD σ)(hs':SmD (cu σ line).2)(hl:line.length<=2600):(cu σ line).1.length<=30000000000/\((cu σ line).2.added.length<=σ.added.length\/(cu σ line).2.added.length+1<=σ.added.length+line.length):=by
 have hw:=EQ line
 unfold cu at hs' ⊢
 cases hx:ug line with
 | nil=>exact⟨by simp,.inl af⟩
 | cons w ws=>
  rw[hx,gQ]at hw
  rw[hx]at hs'
  simp only at hs' ⊢
  cases hd:nk σ w ws with
  | none=>exact⟨by simp only;have:=EI 3 (by decide);omega,.inl af⟩
  | some r=>
   obtain⟨O,σ'⟩:=r
   rw[hd]at hs'
   simp only at hs' ⊢
   obtain⟨k1,k2⟩:=U0 σ w ws O σ' hd hs hs' (by omega)
   constructor
   ·cases O with
    | ok t=>exact k1 t rfl
    | error c=>
     have:=EI c (KJ σ w ws _ σ' hd c rfl)
     show(nE c).length<=_
     omega
   ·rcases k2 with k2|⟨rfl,k2⟩
    ·exact .inl k2
    ·refine .inr ?_
     have:=(Fh ws).1
     have e:DU.length=3:=rfl
     omega
def rZ(L:List (aa)):Nat:=(L.map List.length).sum
theorem Nf(s:aa):rZ (eG s)<=s.length:=by
 induction s with
 | nil=>simp[eG,rZ]
 | cons c r ih=>
  unfold eG
  split
  ·simp only[rZ,Z9,aaa,Z5,Z0]at ih ⊢
   omega
  ·split
   ·simp[rZ]
   ·rename_i x xs e
    rw[e]at ih
    simp only[rZ,Z9,aaa,Z0]at ih ⊢
    omega
theorem J7(s:aa):(eG s).length<=s.length+1:=by
 induction s with
 | nil=>simp[eG]
 | cons c r ih=>
  unfold eG
  split
  ·simp only[Z0]at ih ⊢
   omega
  ·split
   ·simp
   ·rename_i x xs e
    rw[e]at ih
    simp only[Z0]at ih ⊢
    omega
theorem Ol(s:aa):(Lib.trimSuffix s [10]).length<=s.length:=by
 unfold Lib.trimSuffix
 split
 ·rw[aad];omega
 ·exact aao _
theorem MB(s:aa):rZ (pq s)<=s.length:=aan (Nf _) (Ol s)
theorem I6(s:aa):(pq s).length<=s.length+1:=by
 have h1:=J7 (Lib.trimSuffix s [10])
 have h2:=Ol s
 unfold pq
 omega
theorem F9(L:List (aa))(k:Nat)(hk:k<L.length):rZ (L.take (k+1))=rZ (L.take k)+L[k].length:=by
 unfold rZ
 rw[aab,Z6 hk,aar,aak,aal]
 simp only[Z9,aaj,aaa,List.sum_nil,Nat.add_zero]
theorem Pf(L:List (aa))(k:Nat):rZ (L.take k)<=rZ L:=by
 have:rZ L=rZ (L.take k)+rZ (L.drop k):=by
  unfold rZ
  rw[<-aal,<-aak,List.take_append_drop]
 omega
theorem OZ(L:List (aa))(k:Nat)(hk:k<L.length):L[k].length<=rZ L:=by
 have h1:=F9 L k hk
 have h2:=Pf L (k+1)
 omega
theorem RH(σ:Dk)(L:List (aa))(k:Nat)(hk:k<L.length):qR σ (L.take (k+1))=(cu (qR σ (L.take k)) L[k]).2:=by
 have key:∀(A:List (aa)) (σ:Dk) (l:aa),qR σ (A++[l])=(cu (qR σ A) l).2:=by
  intro A
  induction A with
  | nil=>intro σ l;rfl
  | cons a A ih=>intro σ l;exact ih _ _
 rw[aab,Z6 hk,aar,key]
theorem Ri(σ:Dk)(L:List (aa))(k:Nat)(hk:k<L.length):qG σ (L.take (k+1))=qG σ (L.take k)++((cu (qR σ (L.take k)) L[k]).1++[10]):=by
 rw[aab,Z6 hk,aar,JW]
 simp[qG]
end Go.Proofs.YtkldkhdigkpniaaGreatDoor
namespace Go.Proofs.YtkldkhdigkpniaaGreatDoor
open Go.RowKit Go.Proofs.Tryz
structure Tn(Xf:Nat->Prop)(w w':World):Prop where
 os:w'.os=w.os
 tape:w'.tape=w.tape
 output:w'.output=w.output
 size:w.heap.size<=w'.heap.size
 block:∀k,k<w.heap.size->¬Xf k->w'.heap[k]?=w.heap[k]?
theorem Tn.trans{Xf:Nat->Prop}{a b c:World}(h:Tn Xf a b)(k:Tn Xf b c):Tn Xf a c:=
 ⟨k.os.trans h.os,k.tape.trans h.tape,k.output.trans h.output,aan h.size k.size,fun i hi hx=>(k.block i (aam hi h.size) hx).trans (h.block i hi hx)⟩
theorem Tn.gr{Xf:Nat->Prop}{w w':World}{row:Option Nat}(h:w.grownBy w' row)(hr:∀r,row=some r->Xf r):Tn Xf w w':=
 ⟨h.os,h.tape,h.output,h.size,fun k hk hx=>h.block k hk (fun e=>hx (hr k e.symm))⟩
theorem Tn.cell{Xf:Nat->Prop}{w w':World}(h:Tn Xf w w'):∀p u,w.cell? p=some u->¬Xf p.block->w'.cell? p=some u:=
 fun p _ hc hx=>(World.cell?_of_block (h.block p.block (Ws w p hc) hx)).trans hc
theorem Tn.below{Xf:Nat->Prop}{w w':World}(h:Tn Xf w w')(B:Nat)(hB:∀i,Xf i->B<=i)(hw:B<=w.heap.size):Below B w w':=
 ⟨h.os,h.tape,h.output,h.size,fun k hk=>h.block k (by omega) (fun x=>by have:=hB k x;omega)⟩
theorem LH(b:Nat)(r:Value)(bs:List Value)(w:World)(h:BL w b r bs):
  Calls prog 31 #[.pointer (some ⟨b,0,none⟩)] w fun e w'=>e=.returned (.tuple #[])/\w'.heap[b]?=some (.cells #[.pointer (some ⟨b,0,none⟩),r] 34 (0,0))/\w'.ownsRow b 5 1 r bs.length bs/\w.grownBy w' (some b):=by
 obtain⟨p,hp,hb⟩:=h.blk
 have hcell:=Lib.cell_of_heap hb 0
 rcases hp with rfl|rfl
 ·refine(Any.Builder_copyCheck_fresh { Tryz.lays156w with } (Tryz.Builder_Extra_156w).toX72 b w (by rw[hcell];rfl) (by show _=some (34,2);simp[World.shape?,hb]) (by simp[World.frozen?,hb])).mono ?_
  rintro e w' ⟨rfl,rfl⟩
  have hg:=iT w b 0 (.pointer (some ⟨b,0,none⟩))
  exact⟨rfl,by simp[World.setCell,ZZ,hb],h.row.kept hg (.inr h.ne),hg⟩
 ·refine(Any.Builder_copyCheck_used { Tryz.lays156w with } (Tryz.Builder_Extra_156w).toX72 b w (by rw[hcell];rfl)).mono ?_
  rintro e w' ⟨rfl,rfl⟩
  exact⟨rfl,hb,h.row,⟨rfl,rfl,rfl,aao _,fun _ _ _=>rfl⟩⟩
theorem Vm(b:Nat)(r:Value)(bs:List Value)(s:ByteArray)(w:World)(h:BL w b r bs)(h0:0<s.size)(hlen:bs.length+s.size<=140000000000000):
  Calls prog 8 #[.pointer (some ⟨b,0,none⟩),.string s] w fun e w'=>e=.returned (.tuple #[.int .i64 s.size,.nilIface])/\∃r',BL w' b r' (bs++Lib.strCells s)/\(∀i,XB b r' i->XB b r i\/w.heap.size<=i)/\Tn (XB b r) w w':=by
 have HC:=Box.m (LH b r bs w h)
 have hne:=h.ne
 have hbl:=(h.lt b (.inl rfl)).2
 clear h
 go_enter func8,ntmps8
 go_wp2_with fail
 refine HC.o.mono ?_
 rintro e w1 ⟨rfl,hbk,hown,hg1⟩
 have hlt:b<w1.heap.size:=aam hbl hg1.size
 have c0:w1.cell? ⟨b,0,none⟩=some (.pointer (some ⟨b,0,none⟩)):=by rw[Lib.cell_of_heap hbk];rfl
 have c1:w1.cell? ⟨b,1,none⟩=some r:=by rw[Lib.cell_of_heap hbk];rfl
 clear HC
 go_wp2_with (at_builtin;refine WW _ rfl _ _ rfl b _ _ rfl hown s rfl h0 (by omega) (by omega) ?_)
 intro v' w2 hown' hgrow hblk
 have hb2:w2.heap[b]?=some (.cells #[.pointer (some ⟨b,0,none⟩),r] 34 (0,0)):=(hgrow.block b hlt (fun e=>hne e.symm)).trans hbk
 have d0:w2.cell? ⟨b,0,none⟩=some (.pointer (some ⟨b,0,none⟩)):=by rw[Lib.cell_of_heap hb2];rfl
 have d1:w2.cell? ⟨b,1,none⟩=some r:=by rw[Lib.cell_of_heap hb2];rfl
 have f1:w2.frozen? ⟨b,1,none⟩=false:=Lib.frozen_of_heap hb2 1
 obtain⟨ao,n',cap,rfl⟩:∃ao n' cap,v'=.slice ao n' cap:=by
  rcases hown'.2 with⟨hv,_⟩|⟨g,cap,cur,hv,_⟩
  ·exact⟨_,_,_,hv⟩
  ·exact⟨_,_,_,hv⟩
 have hne':(Value.slice ao n' cap).ownBlock≠some b:=by
  rcases hblk with e|e
  ·rw[e];exact hne
  ·rw[e];intro e2;have:=Option.some.inj e2;omega
 go_wp2
 go_ret2
 have hgs:=iT w2 b 1 (.slice ao n' cap)
 refine⟨rfl,.slice ao n' cap,⟨⟨_,.inr rfl,by simp[World.setCell,ZZ,hb2]⟩,by rw[Z4];exact hown'.kept hgs (.inr hne'),hne'⟩,?_,?_⟩
 ·rintro i (rfl|hi)
  ·exact .inl (.inl rfl)
  ·rcases hblk with e|e
   ·exact .inl (.inr (e.symm.trans hi))
   ·have:i=w1.heap.size:=Option.some.inj (hi.symm.trans e)
    exact .inr (by rw[this];exact hg1.size)
 ·exact((Tn.gr hg1 (fun r e=>by cases e;exact .inl rfl)).trans (Tn.gr hgrow (fun r e=>.inr e))).trans (Tn.gr hgs (fun r e=>by cases e;exact .inl rfl))
end Go.Proofs.YtkldkhdigkpniaaGreatDoor
namespace Go.Proofs.YtkldkhdigkpniaaGreatDoor
open Go.RowKit Go.Proofs.Px Go.Shelf Go.Proofs.Tryz
attribute [local go_sem] Oper.semAt_some
structure At(w0:World)(d m q b:Nat)(L:List (aa))(k:Nat)(W:World):Prop where
 ds:∃r,DS (XB b r) W d (qR dk0 (L.take k))/\BL W b r (Lib.byteCells (qG dk0 (L.take k)))
 env:lg W d
 map:W.heap[m]?=some (.map (qF d).toArray 16)
 box:W.heap[q]?=some (.cells #[.map (some m)] 29 (0,0))
 low:Below d w0 W
 add:(qR dk0 (L.take k)).added.length=0\/(qR dk0 (L.take k)).added.length+1<=rZ (L.take k)
 outL:(qG dk0 (L.take k)).length<=k*30000000001
theorem At.own{w0:World}{d m q b B:Nat}{L:List (aa)}(hd:d<B)(hm:m<B):OwnFrom B (At w0 d m q b L):=by
 intro k W W' row h hg hr
 have hr2:∀r,row=some r->∃o:Obj,W.heap[r]?=some o/\o.isCells=false:=fun r e=>(hr r e).2
 have hb:Below d W W':=⟨hg.os,hg.tape,hg.output,hg.size,fun i hi=>by
  by_cases hiw:i<W.heap.size
  ·exact hg.block i hiw (fun e=>by have:=(hr i e.symm).1;omega)
  ·obtain⟨r,hds,_⟩:=h.ds
   have:=hds.lt
   omega⟩
 obtain⟨r,hds,hbl⟩:=h.ds
 refine⟨⟨r,hds.walk hg hr2,hbl.walk hg hr2⟩,h.env.below hb,?_,?_,h.low.trans hb,h.add,h.outL⟩
 ·exact(hg.block m (ZV.1 h.map).1 (fun e=>by have:=(hr m e.symm).1;omega)).trans h.map
 ·exact(grownBy_keeps_cells hg hr2 h.box rfl).trans h.box
theorem Jv(l:aa)(t:ByteArray):Lib.byteCells l++Lib.strCells t=Lib.byteCells (l++t.data.toList):=by
 rw[Lib.byteCells_append,Lib.strCells_eq]
theorem At.grown{w0:World}{d m q b:Nat}{L:List (aa)}{k:Nat}{W W1 W2:World}(h:At w0 d m q b L k W)(hk:k<L.length)(hdb:d<q)(hqb:q<b)(hmq:m<q)(hdm:d<m){r r':Value}{T:ByteArray}
  (hD1:DS (XB b r) W1 d (cu (qR dk0 (L.take k)) L[k]).2) (hg:W.grownBy W1 (some d)) (hT:T.data.toList=(cu (qR dk0 (L.take k)) L[k]).1)
  (hb2:BL W2 b r' (Lib.byteCells (qG dk0 (L.take k))++Lib.strCells (T++⟨#[10]⟩))) (hx:∀i,XB b r' i->XB b r i\/W1.heap.size<=i) (ht:Tn (XB b r) W1 W2) (hX1:∀i,XB b r i->b<=i)
  (ha:(cu (qR dk0 (L.take k)) L[k]).1.length<=30000000000/\((cu (qR dk0 (L.take k)) L[k]).2.added.length<=(qR dk0 (L.take k)).added.length\/(cu (qR dk0 (L.take k)) L[k]).2.added.length+1<=(qR dk0 (L.take k)).added.length+L[k].length)):At w0 d m q b L (k+1) W2:=by
 have hdl:d<W.heap.size:=by obtain⟨r,hds,_⟩:=h.ds;exact hds.lt
 have e1:=RH dk0 L k hk
 have e2:=Ri dk0 L k hk
 have hlow:Below d W W2:=(iX hg af hdl).trans (ht.below d (fun i hi=>by have:=hX1 i hi;omega) (aaq (aam hdl hg.size)))
 have keep:∀(i:Nat) (o:Obj),W.heap[i]?=some o->i<b->i≠d->W2.heap[i]?=some o:=fun i o hi hib hid=>
  (ht.block i (aam (ZV.1 hi).1 hg.size) (fun x=>by have:=hX1 i x;omega)).trans ((hg.block i (ZV.1 hi).1 (fun e=>hid (Option.some.inj e))).trans hi)
 have hl:=F9 L k hk
 refine⟨⟨r',?_,?_⟩,h.env.below hlow,keep m _ h.map (by omega) (by omega),keep q _ h.box hqb (by omega),h.low.trans hlow,?_,?_⟩
 ·rw[e1]
  have s1:=hD1.shift (Yf:=fun i=>XB b r i\/XB b r' i) (fun i hi=>by
   rcases hi with hi|hi
   ·exact .inl hi
   ·exact hx i hi)
  have s2:=s1.kc (w':=W2) (Yf:=XB b r) (ht.block d hD1.lt (fun x=>by have:=hX1 d x;omega)) (fun i hi=>.inl hi) ht.cell
  exact s2.shift (fun i hi=>.inl (.inr hi))
 ·rw[e2]
  have:Lib.byteCells (qG dk0 (L.take k))++Lib.strCells (T++⟨#[10]⟩)=Lib.byteCells (qG dk0 (L.take k)++((cu (qR dk0 (L.take k)) L[k]).1++[10])):=by
   rw[Jv,aau,ZW,hT]
  rw[<-this]
  exact hb2
 ·rw[e1,hl]
  have:=h.add
  have:=ha.2
  omega
 ·rw[e2,Z4,Z4]
  have:=h.outL
  have:=ha.1
  simp only[Z0,Z5]
  omega
theorem XD(L:List (aa))(k:Nat)(hk:k<L.length):(qU L k).data.toList=L[k]:=by
 unfold qU
 rw[Z6 hk]
 rfl
theorem rz(s:ByteArray)(w:World)(hs:s.size<=2501)(hE:lg w w.heap.size):
  Calls prog 4 #[.string s] w fun e w'=>∃T:ByteArray,e=.returned (.string T)/\T.data.toList=rV s.data.toList/\Below w.heap.size w w':=by
 obtain⟨L,HL⟩:∃L,Box (pq s.data.toList=L):=⟨_,⟨rfl⟩⟩
 have HS:Box (rV s.data.toList=qG dk0 L):=⟨by unfold rV;rw[if_neg (by rw[ae];omega),HL.o]⟩
 rw[HS.o]
 have hLl:rZ L<=2501:=by rw[<-HL.o];exact aan (MB _) (by rw[ae];exact hs)
 have hLn:L.length<=2502:=by rw[<-HL.o];exact aan (I6 _) (by rw[ae];omega)
 have HE:=Box.m hE
 have hn:¬(20000:Int)<(s.size:Int):=by omega
 have HDd:=Box.m (Mf w.heap.size (w.alloc (.cells #[.string ⟨#[]⟩,.pointer none] 28)))
 clear hE
 refine(callsIn_wide (n:=3)).1 ?_
 refine callsIn_of_wp_marks func4 rfl trivial ?_ rfl
 simp only[ntmps4,aae,Z0,Z5,Nat.reduceAdd,Nat.reduceSub,ZX,ZY,aaf,aag,aah,aai]
 gi_wp2_with (first
  | (refine⟨trivial,?_⟩;gi_at_call 6;refine(callsIn_wide.2 HDd.o).mono ?_;rintro e w1 ⟨rfl,hm1,hb1⟩)
  | (refine⟨trivial,?_⟩;gi_at_call 7;refine(callsIn_wide.2 (LC s _)).mono ?_;rintro e w2 ⟨rfl,hw2⟩))
 have hA1:(w.alloc (.cells #[.string ⟨#[]⟩,.pointer none] 28)).heap.size=w.heap.size+1:=by simp
 rw[hA1]at hm1 hb1
 have hsz1:w.heap.size+1<w1.heap.size:=(ZV.1 hm1).1
 rw[<-hw2]
 have hq:w2.heap[w1.heap.size]?=some (.cells #[.map (some (w.heap.size+1))] 29 (0,0)):=by
  rw[hw2]
  refine(Below.heap_alloc _ _ _ (by simp;omega)).trans ((Below.heap_alloc _ _ _ (by simp)).trans (aP w1 _))
 have hbb:w2.heap[w1.heap.size+1]?=some (.cells #[.pointer none,.slice none 0 0] 34 (0,0)):=by
  rw[hw2]
  refine(Below.heap_alloc _ _ _ (by simp)).trans ?_
  have:=aP (w1.alloc (.cells #[.map (some (w.heap.size+1))] 29)) (.cells #[.pointer none,.slice none 0 0] 34)
  rwa[GL]at this
 have hsb:w2.heap[w1.heap.size+1+1]?=some (uA s):=by
  rw[hw2]
  have:=aP ((w1.alloc (.cells #[.map (some (w.heap.size+1))] 29)).alloc (.cells #[.pointer none,.slice none 0 0] 34)) (uA s)
  rwa[GL,GL]at this
 have hs2:w2.heap.size=w1.heap.size+3:=by rw[hw2];simp
 have hold:∀i,i<w1.heap.size->w2.heap[i]?=w1.heap[i]?:=fun i hi=>by
  rw[hw2]
  exact(Below.heap_alloc _ _ _ (by simp;omega)).trans ((Below.heap_alloc _ _ _ (by simp;omega)).trans (Below.heap_alloc _ _ _ hi))
 have hb12:Below w1.heap.size w1 w2:=by rw[hw2];exact((ag.alloc af _).alloc (by simp) _).alloc (by simp;omega) _
 have hb02:Below w.heap.size w w2:=(((Below.refl w.heap.size w).alloc af _).trans (hb1.mono (by omega))).trans (hb12.mono (by omega))
 have hd2:w2.heap[w.heap.size]?=some (.cells #[.string ⟨#[]⟩,.pointer none] 28 (0,0)):=(hold _ (by omega)).trans ((hb1.block _ (by omega)).trans (aP w _))
 have hG:=Y8 s (by omega) (w1.heap.size+1+1) 2 (by decide) w2 hsb
 rw[HL.o]at hG
 have H0:Box (At w w.heap.size (w.heap.size+1) w1.heap.size (w1.heap.size+1) L 0 w2):=⟨⟨⟨.slice none 0 0,⟨⟨#[]⟩,none,hd2,rfl,fun _=>rfl,fun bb h=>by cases h⟩,⟨⟨_,.inl rfl,hbb⟩,World.ownsRow_nil _ _ _ _,by simp[Value.ownBlock]⟩⟩,HE.o.below hb02,(hold _ hsz1).trans hm1,hq,hb02,.inl rfl,aap _⟩⟩
 clear hq hbb hsb hold hb12 hd2 HDd hm1 hb1 hA1 HE
 refine NU (gf:=28) (lb:=#[.pointer (some ⟨w1.heap.size+1+1,0,none⟩)]) rfl (by decide) rfl trivial (fun _ _=>rfl) (fun _=>rfl) hG (At w w.heap.size (w.heap.size+1) w1.heap.size (w1.heap.size+1) L) (fun k A h=>h.env.gl.mx) (At.own (by omega) (by omega)) H0.o (fun k=>{ tmps:=#[.string s,undef,.string ⟨#[]⟩,.pointer (some ⟨w.heap.size,0,none⟩),.pointer (some ⟨w1.heap.size,0,none⟩),.pointer (some ⟨w1.heap.size+1,0,none⟩),.string (qU L k),.string s,.int .i64 (s.size:Int),.bool false,undef,undef,.map (some (w.heap.size+1)),.string s,.func (.func 28) #[] #[.pointer (some ⟨w1.heap.size+1+1,0,none⟩)],.string (qU L k),undef,undef,undef,undef,undef,undef],defers:=[] }) ?assign ?body ?done
 case assign=>
  intro l k W K hK
  gi_wp2
  exact hK
 case body=>
  intro l k W hk hAt
  obtain⟨r,hds,hbl⟩:=hAt.ds
  have hll:=OZ L k hk
  have hal:=Pf L k
  have hadd:=hAt.add
  have hout:=hAt.outL
  have hln:=XD L k hk
  have HAns:=Box.m (IJ hds hAt.env (fun i hi=>(hbl.lt i hi).2) hAt.map (qU L k) (by rw[<-ae,hln];omega) (by omega))
  rw[hln]at HAns
  have hc4:W.cell? ⟨w1.heap.size,0,none⟩=some (.map (some (w.heap.size+1))):=by rw[Lib.cell_of_heap hAt.box];rfl
  have HAt:=Box.m hAt
  have HBl:=Box.m hbl
  have HDs:=Box.m hds
  have hkn:k<=2502:=by omega
  generalize hR:qG dk0 (L.take k)=R at HBl hout
  clear hAt hbl hds hadd hal hll
  gi_wp2_with (first
   | (refine⟨trivial,?_⟩;gi_at_call 9;refine(CallsIn.inRound l (callsIn_wide.2 HAns.o)).mono ?_;rintro e W1 ⟨T,rfl,hT,hD1,hg1⟩;have Ha:=Box.m (Nn _ L[k] HDs.o.sm hD1.sm (by have:=OZ L k hk;omega));have hTs:T.size<=30000000000:=(by rw[<-ae,hT];exact Ha.o.1);have HB1:Box (BL W1 (w1.heap.size+1) r (Lib.byteCells R)):=⟨HBl.o.kept (fun i hi=>hg1.block i (HBl.o.lt i hi).2 (fun e=>by have h1:=(HBl.o.lt i hi).1;have h2:=Option.some.inj e;omega))⟩;have HT:=Box.m hT;have HD1:=Box.m hD1;have hz:¬9223372036854775807<T.size+1:=(by omega);have HW:=Box.m (Vm (w1.heap.size+1) r (Lib.byteCells R) (T++⟨#[10]⟩) W1 HB1.o (by rw[aat];exact aam (Nat.zero_lt_one) (Nat.le_add_left _ _)) (by rw[aat,Lib.byteCells_length];show R.length+(T.size+1)<=_;omega));clear hc4 hT hD1 HAns)
   | (refine⟨trivial,?_⟩;gi_at_call 8;refine(CallsIn.inRound l (callsIn_wide.2 HW.o)).mono ?_;rintro e W2 ⟨rfl,r',hB2,hX2,hT2⟩;clear HW)
   | fail)
  rw[<-hR]at hB2
  refine⟨⟨aan hg1.size hT2.size,fun i o hi hio ho=>?_⟩,HAt.o.grown hk (by omega) (by omega) (by omega) (by omega) HD1.o hg1 HT.o hB2 hX2 hT2 (fun i hi=>(HB1.o.lt i hi).1) Ha.o⟩
  have h1:W1.heap[i]?=some o:=(hg1.block i (ZV.1 hio).1 (fun e=>by have:=Option.some.inj e;omega)).trans hio
  refine(hT2.block i (ZV.1 h1).1 (fun hx=>?_)).trans h1
  obtain⟨o',ho',hc'⟩:=HB1.o.cells i hx
  rw[h1]at ho'
  cases ho'
  rw[ho]at hc'
  cases hc'
 case done=>
  intro D W hD hAt hK
  obtain⟨r,hds,hbl⟩:=hAt.ds
  rw[List.take_length]at hbl
  have hbw:=(hbl.lt _ (.inl rfl)).2
  have HB:=Box.m (Go.Proofs.Px.Tryz.Builder_String (w1.heap.size+1) (w1.heap.size+1) (qG dk0 L) W (Lib.IsBuilderF.of hbl.is) (aaq hbw))
  have hlow:=hAt.low
  clear hAt hds hbl
  gi_wp2_with (first
   | (refine⟨trivial,?_⟩;gi_at_call 10;refine(callsIn_wide.2 HB.o).mono ?_;rintro e W3 ⟨rfl,-,hb3,ho3⟩;have hK3:=ho3 D _ hK (fun e=>by have:=Option.some.inj e;omega) (fun _ _ e=>by cases e))
   | fail)
  refine⟨by simp,.inl ⟨_,_,rfl,run_takeDeferred hK3,?_⟩⟩
  refine⟨_,results_tmp rfl _ _ _,_,rfl,rfl,?_⟩
  have hp:Below w.heap.size W3 (W3.putObj D (.deferred none)):=⟨rfl,rfl,rfl,by simp,fun k hk=>VQ (by omega)⟩
  exact(hlow.trans (hb3.mono (by omega))).trans hp
end Go.Proofs.YtkldkhdigkpniaaGreatDoor
namespace Go.Proofs.YtkldkhdigkpniaaGreatDoor
open Go.RowKit Go.Proofs.Px Go.Proofs.Tryz
abbrev TJ:ByteArray:=⟨#[112,97,99,107,32,77,10,114,101,115,111,108,118,101,32,104,116,116,112,58,47,47,97,47,98,32,46,46,47,99,10,120,10]⟩
abbrev Yd:ByteArray:=⟨#[34,84,81,61,61,37,48,100,37,48,97,34,10,105,115,32,104,116,116,112,58,47,47,97,47,99,10,101,114,114,111,114,32,51,10]⟩
theorem Wi:pq TJ.data.toList=[[112,97,99,107,32,77],[114,101,115,111,108,118,101,32,104,116,116,112,58,47,47,97,47,98,32,46,46,47,99],[120]]:=by decide +kernel
theorem TY:ug [112,97,99,107,32,77]=[F7,[77]]:=by decide +kernel
theorem UA:ug [114,101,115,111,108,118,101,32,104,116,116,112,58,47,47,97,47,98,32,46,46,47,99]=[qo,[104,116,116,112,58,47,47,97,47,98],[46,46,47,99]]:=by decide +kernel
theorem VH:ug [120]=[[120]]:=by decide +kernel
theorem YM:ed (Tx.packS (dL [[77]]))=[34,84,81,61,61,37,48,100,37,48,97,34]:=by decide +kernel
theorem Zn:(match(tZ [[104,116,116,112,58,47,47,97,47,98],[46,46,47,99]] fun a b=>dQ a fun x=>dQ b fun y=>.ok (isW (bQ (jv x y))):eU)with | .ok t=>t | .error _=>[])=[105,115,32,104,116,116,112,58,47,47,97,47,99]:=by decide +kernel
theorem Yw:(tZ [[104,116,116,112,58,47,47,97,47,98],[46,46,47,99]] fun a b=>dQ a fun x=>dQ b fun y=>.ok (isW (bQ (jv x y))):eU)=.ok [105,115,32,104,116,116,112,58,47,47,97,47,99]:=by
 have h:=Zn
 generalize (tZ [[104,116,116,112,58,47,47,97,47,98],[46,46,47,99]] fun a b=>dQ a fun x=>dQ b fun y=>.ok (isW (bQ (jv x y))):eU)=O at h ⊢
 cases O with
 | ok t=>exact congrArg _ h
 | error c=>cases h
theorem Xx:nE 3=[101,114,114,111,114,32,51]:=by decide +kernel
theorem YV(σ:Dk):cu σ [112,97,99,107,32,77]=([34,84,81,61,61,37,48,100,37,48,97,34],σ):=by
 unfold cu
 rw[TY]
 simp only
 have:nk σ F7 [[77]]=some (.ok (ed (Tx.packS (dL [[77]]))),σ):=rfl
 rw[this,YM]
 rfl
theorem Yq(σ:Dk):cu σ [114,101,115,111,108,118,101,32,104,116,116,112,58,47,47,97,47,98,32,46,46,47,99]=([105,115,32,104,116,116,112,58,47,47,97,47,99],σ):=by
 unfold cu
 rw[UA]
 simp only
 have:nk σ qo [[104,116,116,112,58,47,47,97,47,98],[46,46,47,99]]=some (tZ [[104,116,116,112,58,47,47,97,47,98],[46,46,47,99]] fun a b=>dQ a fun x=>dQ b fun y=>.ok (isW (bQ (jv x y))),σ):=rfl
 rw[this,Yw]
 rfl
theorem YR(σ:Dk):cu σ [120]=([101,114,114,111,114,32,51],σ):=by
 unfold cu
 rw[VH]
 simp only
 have:nk σ [120] []=none:=rfl
 rw[this,Xx]
theorem Yp:rV TJ.data.toList=Yd.data.toList:=by
 unfold rV
 rw[if_neg (by decide),Wi]
 simp only[qG,YV,Yq,YR]
 rfl
theorem lg.up{w:World}{d d':Nat}(h:lg w d)(hd:d<=d'):lg w d':=⟨h.gl,h.gb.mono hd,h.pg.up hd,h.tb,aam h.tl hd,h.es,aam h.sl hd,h.er,aam h.rl hd⟩
theorem lg.next{w w':World}(h:lg w w.heap.size)(hb:Below w.heap.size w w'):lg w' w'.heap.size:=(h.below hb).up hb.size
theorem Tv(a b:ByteArray)(w:World)(ha:a.size<=1000000000000000)(hb:b.size<=1000000000000000)(hE:lg w w.heap.size):
  Calls prog 3 #[.string a,.string b] w fun e w'=>e=.returned (.bool true)/\Below w.heap.size w w':=by
 by_cases hs:2500<a.size+b.size
 ·have h1:(2500:Int)<(a.size:Int)+(b.size:Int):=by omega
  clear hE
  go_enter func3,ntmps3
  go_wp2
  all_goals go_ret
  all_goals exact⟨rfl,Below.refl _ _⟩
 ·have h1:¬(2500:Int)<(a.size:Int)+(b.size:Int):=by omega
  have HE:=Box.m hE
  have H1:=Box.m (rz TJ w (by decide) hE)
  rw[Yp]at H1
  obtain⟨x,HX⟩:∃x:ByteArray,Box (x.data.toList=rV (a++⟨#[10]⟩).data.toList):=⟨⟨(rV (a++⟨#[10]⟩).data.toList).toArray⟩,⟨rfl⟩⟩
  obtain⟨y,HY⟩:∃y:ByteArray,Box (y.data.toList=rV (a++⟨#[10]⟩++b).data.toList):=⟨⟨(rV (a++⟨#[10]⟩++b).data.toList).toArray⟩,⟨rfl⟩⟩
  have HP:Box (∃t,y.data.toList=x.data.toList++t):=⟨by
   rw[HX.o,HY.o]
   have e1:(a++⟨#[10]⟩:ByteArray).data.toList=a.data.toList++[10]:=by rw[aau,ZW]
   have e2:(a++⟨#[10]⟩++b:ByteArray).data.toList=a.data.toList++10::b.data.toList:=by rw[aau,ZW,e1];simp
   rw[e1,e2]
   exact KL _ _ (by rw[Z4,Z0,ae,ae];omega)⟩
  have hxy:x.size<=y.size:=by
   obtain⟨t,ht⟩:=HP.o
   rw[<-ae,<-ae y,ht,Z4]
   omega
  have HXE:Box (y.extract 0 x.size=x):=⟨by
   obtain⟨t,ht⟩:=HP.o
   apply aF
   rw[aB,ht,<-ae x]
   simp⟩
  clear hE hs
  go_enter func3,ntmps3
  go_wp2_with fail
  refine H1.o.mono ?_
  rintro e w1 ⟨t0,rfl,ht0,hb1⟩
  obtain rfl:t0=Yd:=aF ht0
  have HE1:=Box.m (HE.o.next hb1)
  have H2:=Box.m (rz (a++⟨#[10]⟩) w1 (by rw[aat];show a.size+1<=_;omega) HE1.o)
  have z1:¬9223372036854775807<a.size+1:=by omega
  have z2:¬9223372036854775807<a.size+1+b.size:=by omega
  clear H1 ht0 HE
  go_wp2_with fail
  refine H2.o.mono ?_
  rintro e w2 ⟨t1,rfl,ht1,hb2⟩
  obtain rfl:t1=x:=aF (ht1.trans HX.o.symm)
  have hb02:=hb1.trans (hb2.mono hb1.size)
  have H3:=Box.m (rz (a++⟨#[10]⟩++b) w2 (by rw[aat,aat];show a.size+1+b.size<=_;omega) (HE1.o.next hb2))
  clear H2 ht1 HE1
  go_wp2_with fail
  refine H3.o.mono ?_
  rintro e w3 ⟨t2,rfl,ht2,hb3⟩
  obtain rfl:t2=y:=aF (ht2.trans HY.o.symm)
  have hb03:=hb02.trans (hb3.mono hb02.size)
  have hle:(t1.size:Int)<=(t2.size:Int):=by omega
  have hXE:=HXE.o
  clear H3 ht2 hb1 hb2 hb3 hb02
  go_wp2
  go_ret
  exact⟨rfl,hb03⟩
end Go.Proofs.YtkldkhdigkpniaaGreatDoor
