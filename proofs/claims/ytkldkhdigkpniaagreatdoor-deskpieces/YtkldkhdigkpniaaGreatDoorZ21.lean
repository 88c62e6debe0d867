import Derived.Test.YtkldkhdigkpniaaGreatDoorZ20
import Derived.OwnWalk
import Derived.Deep.QuietTactic
import Derived.BigQuiet
set_option maxHeartbeats 4000000
set_option maxRecDepth 100000
open Nat renaming le_refl → GL, zero_add → VQ, zero_le → Ws, le_trans → Xu
open List renaming map_append → ZV, concat_eq_append → ZW, length_append → ZX, length_cons → ZY, length_nil → ZZ, map_singleton → Z0, getElem?_eq_getElem → Z4, getElem?_eq_some_iff → Z5
open Array renaming getElem?_push → Z6
namespace Go.Proofs.YtkldkhdigkpniaaGreatDoor
open Go.RowKit Go.Proofs.Tryz
theorem aV.take{w:World}{B g cap n:Nat}{l:List ByteArray}(h:aV w B (.slice (some ⟨g,0,none⟩) n cap) l)(m:Nat)(hm:m<=l.length):aV w B (.slice (some ⟨g,0,none⟩) m cap) (l.take m):=by
 obtain⟨h1,h2⟩:=h
 have hlen:(l.take m).length=m:=by simp;omega
 refine⟨by simp,?_⟩
 rcases h2 with⟨h2,_⟩|⟨g',cap',cur,a,b,c,d,e,f,i⟩
 ·cases h2
 ·simp only[Value.slice.injEq,Option.some.injEq,Addr.mk.injEq,and_true]at a
  obtain⟨rfl,rfl,rfl⟩:=a
  refine .inr ⟨g,cap,cur,by rw[hlen],b,c,by omega,e,f,?_⟩
  rw[hlen]
  have:(l.take m).map Value.string=(l.map Value.string).take m:=by simp
  rw[this,<-i,List.take_take]
  congr 1
  omega
def jm(l:List (aa)):Nat:=(l.map fun x=>x.length+1).sum
theorem rA(a b:List (aa)):jm (a++b)=jm a+jm b:=by simp[jm]
theorem Bc(x:aa)(l:List (aa)):jm (x::l)=x.length+1+jm l:=by simp[jm]
theorem vV:∀l:List (aa),l≠[]->(vw l).length+1=jm l
 | [],h=>absurd rfl h
 | [x],_=>by simp[vw,jm]
 | x::y::r,_=>by
  have:=vV (y::r) (by simp)
  rw[qZ x (y::r) (by simp),Bc,<-this]
  simp;omega
theorem RN(o:List (aa)):jm (tq o)<=jm o:=by
 unfold tq
 split
 ·exact GL _
 ·cases h:o with
  | nil=>exact GL _
  | cons a l=>
   have e:=List.dropLast_concat_getLast (show a::l≠[] by simp)
   have:jm (a::l)=jm (a::l).dropLast+jm [(a::l).getLast (by simp)]:=by rw[<-rA,e]
   omega
theorem K5(o:List (aa))(f:Bool)(x:aa)(last:Bool):jm (gX o f x last)<=jm o+(x.length+1):=by
 have hp:=RN o
 unfold gX
 split
 ·omega
 ·split
  ·rw[rA];simp[jm]
  ·split
   ·rw[rA]
    have:jm [([]:aa)]=1:=rfl
    split<;>omega
   ·split<;>omega
theorem Dt:∀(l o:List (aa)) (f:Bool),jm (iL o f l)<=jm o+jm l
 | [],o,f=>by simp[iL]
 | x::r,o,f=>by
  rw[Cv,Bc]
  have h1:=Dt r (gX o f x r.isEmpty) false
  have h2:=K5 o f x r.isEmpty
  omega
theorem mG(p:aa):(lS p).length<=p.length:=by
 have h1:=Dt (dh p) [] true
 have h2:=vV _ (zV p).1
 have h3:=vV _ (qB p)
 rw[Lh]at h3
 have:jm ([]:List (aa))=0:=rfl
 unfold lS
 omega
theorem SY(o:List (aa))(x:aa):upP (o++[x])=if x=[] then o++[x] else o:=by
 unfold upP
 by_cases h:x=[]
 ·subst h;simp
 ·have:¬(o++[x]=[]\/(o++[x]).getLast?=some []):=by simp[h]
  rw[if_neg this,if_neg h,List.dropLast_concat]
theorem YA(v:Value)(l:List ByteArray)(w:World)(B:Nat)(hown:aV w B v l)(hl:l.length<=10000000):
  Calls prog 77 #[v] w fun e w'=>∃v' l',e=.returned v'/\aV w B v' l'/\l'.map lst=upP (l.map lst)/\l'.length<=l.length/\w'=w:=by
 rcases hown.shape with⟨rfl,rfl⟩|⟨g,cap,rfl,hB,hg,hcap,hmax,hcells⟩
 ·go_enter func77,ntmps77
  go_wp2
  go_ret
  exact⟨_,[],rfl,hown,rfl,GL _,rfl⟩
 ·rcases List.eq_nil_or_concat l with rfl|⟨o,x,rfl⟩
  ·go_enter func77,ntmps77
   go_wp2
   go_ret
   exact⟨_,[],rfl,hown,rfl,GL _,rfl⟩
  ·have hc:=hcells o.length (by simp)
   simp only[ZW,ZX,ZY,ZZ,VQ,List.getElem_concat_length]at hc hown hl ⊢
   simp only[ZW,ZX,ZY,ZZ,VQ]at hcap
   have ho:=hown.take o.length (by simp)
   rw[List.take_left]at ho
   obtain⟨n,hn⟩:∃n,n=o.length:=⟨_,rfl⟩
   have HO:=Box.m hown
   have HT:=Box.m ho
   have HU:=Box.m (SY (o.map lst) (lst x))
   clear hcells hown ho
   rw[<-hn]at hc hl hcap HO HT ⊢
   have HN:=Box.m hn
   clear hn
   by_cases h0:x.size=0
   ·have he:=dC x h0
    have HE:Box (lst x=[]):=⟨fZ x h0⟩
    clear h0
    go_enter func77,ntmps77
    go_wp2
    go_ret
    exact⟨_,_,rfl,HO.o,by rw[ZV,Z0,HU.o,if_pos HE.o],Nat.le_of_eq (by rw[HN.o];simp),rfl⟩
   ·have he:=bN x h0
    have HE:Box (¬lst x=[]):=⟨fun e=>h0 (by rw[<-ae];exact congrArg List.length e)⟩
    clear h0
    go_enter func77,ntmps77
    go_wp2
    go_ret
    exact⟨_,_,rfl,HT.o,by rw[ZV,Z0,HU.o,if_neg HE.o],by rw[HN.o];exact Nat.le_succ _,rfl⟩
theorem K9(s:ByteArray)(w:World)(hs:s.size<=1000000)(hm:Max w):
  Calls prog 76 #[.string s,.string ⟨#[47]⟩] w fun e w'=>∃(c:Nat) (pb:List ByteArray),e=.returned (.slice (some ⟨w.heap.size,0,none⟩) (c+1) (c+1))/\pb.length=c+1/\pb.map lst=dh s.data.toList/\c<=s.size /\
   (∀k (hk:k<pb.length),w'.cell? ⟨w.heap.size,k,none⟩=some (.string pb[k]))/\w'.heap.size=w.heap.size+1/\Below w.heap.size w w':=by
 obtain⟨_,m,hm⟩:=hm
 refine(Tryz.strings_Split s ⟨#[47]⟩ m w (by omega) hm (by decide)).mono ?_
 rintro e w' ⟨rfl,rfl⟩
 have hlen:=Lib.splitB_all ⟨#[47]⟩ (by decide) 0 _ s rfl
 have hcnt:=Lib.countB_le ⟨#[47]⟩ (by decide) _ s af
 refine⟨_,Lib.splitB ⟨#[47]⟩ 0 (Lib.countB s ⟨#[47]⟩) s,rfl,hlen,IZ s,by omega,?_,by simp,ag.alloc af _⟩
 intro k hk
 have h:(w.alloc (.cells ((Lib.splitB ⟨#[47]⟩ 0 (Lib.countB s ⟨#[47]⟩) s).map Value.string).toArray 9)).heap[w.heap.size]?=some (.cells ((Lib.splitB ⟨#[47]⟩ 0 (Lib.countB s ⟨#[47]⟩) s).map Value.string).toArray 9 (0,0)):=by
  show(w.heap.push _)[w.heap.size]?=_
  simp
 simp only[World.cell?,h]
 simp[Z4 hk]
theorem SH{x:ByteArray}{l:aa}(h:lst x=l):(x.toList==l)=true:=by rw[ByteArray.toList_eq,beq_iff_eq];exact h
theorem Gi{x:ByteArray}{l:aa}(h:¬lst x=l):(x.toList==l)=false:=by rw[ByteArray.toList_eq,beq_eq_false_iff_ne];exact h
theorem Nt{pb o:List ByteArray}{k c:Nat}{x:ByteArray}(hD:iL [] true (pb.map lst)=iL (o.map lst) (decide (k=0)) ((pb.map lst).drop k))(hX:pb[k]?=some x)(hk:k<c+1)(hl:pb.length=c+1):
  iL [] true (pb.map lst)=iL (gX (o.map lst) (decide (k=0)) (lst x) (decide (k=c))) (decide (k+1=0)) ((pb.map lst).drop (k+1)):=by
 have hlt:k<(pb.map lst).length:=by simp;omega
 have hx:(pb.map lst)[k]=lst x:=by
  have:=(Z5.1 hX).2
  simp[this]
 have he:((pb.map lst).drop (k+1)).isEmpty=decide (k=c):=by
  rw[Bool.eq_iff_iff,List.isEmpty_iff,List.drop_eq_nil_iff,decide_eq_true_iff,List.length_map]
  omega
 rw[hD,List.drop_eq_getElem_cons hlt,Cv,hx,he,decide_eq_false (show ¬k+1=0 by omega)]
theorem Ez(o:List (aa))(f:Bool):gX o f gP true=tq o++[[]]:=by simp[gX,gP,dot]
theorem UR(o:List (aa))(f:Bool):gX o f gP false=tq o:=by simp[gX,gP,dot]
theorem Gl(o:List (aa))(f:Bool):gX o f dot true=o++[[]]:=by simp[gX,gP,dot]
theorem VN(o:List (aa))(f:Bool):gX o f dot false=o:=by simp[gX,gP,dot]
theorem U2(o:List (aa))(f:Bool)(x:aa)(l:Bool)(h1:¬x=dot)(h2:¬x=gP)(h:¬(x=[]/\l=false/\f=false)):gX o f x l=o++[x]:=by
 unfold gX
 rw[if_neg h,if_pos ⟨h1,h2⟩]
theorem Qx(g cap:Nat)(o:List ByteArray)(w:World)(s:ByteArray)(ho:o.map lst=iL [] true (dh s.data.toList))(hc:∀k (hk:k<o.length),w.cell? ⟨g,k,none⟩=some (.string o[k]))(hg:g<w.heap.size)(hcap:o.length<=cap)(hl:o.length<=10000000)(hs:s.size<=1000000):
  Calls prog 65 #[.slice (some ⟨g,0,none⟩) o.length cap,.string ⟨#[47]⟩] w fun e w'=>∃S:ByteArray,e=.returned (.string S)/\S.data.toList=lS s.data.toList/\Below w.heap.size w w':=by
 have hj:Lib.join (o.map (·.data.toList)) [47]=lS s.data.toList:=by
  rw[BI]
  show vw (o.map lst)=_
  rw[ho];rfl
 have hd:=mG s.data.toList
 rw[ae]at hd
 refine(Tryz.strings_Join g 0 cap o ⟨#[47]⟩ w (fun j x hx=>?_) hg (by omega) hcap ?_).mono ?_
 ·obtain⟨h1,h2⟩:=Z5.1 hx
  rw[VQ,hc j h1,h2]
 ·show(Lib.join (o.map (·.data.toList)) [47]).length<=_
  rw[hj];omega
 ·rintro e w' ⟨rfl,hb⟩
  exact⟨_,rfl,hj,hb⟩
theorem uE(s:ByteArray)(w:World)(hs:s.size<=1000000)(hm:Max w):
  Calls prog 45 #[.string s] w fun e w'=>∃S:ByteArray,e=.returned (.string S)/\S.data.toList=lS s.data.toList/\Below w.heap.size w w':=by
 go_enter func45,ntmps45
 go_wp2_with fail
 refine(K9 s _ hs hm).mono ?_
 rintro e w1 ⟨c,pb,rfl,hpl,hpb,hcs,hcell,hsz1,hb1⟩
 have HP:=Box.m hpb
 have HC:=Box.m hcell
 clear hpb hcell
 go_wp2
 go_loopw [5,15] (fun v i wr=>∃(k:Nat) (o:List ByteArray),k<=c+1/\i=.int .i64 k/\o.length<=k/\aV wr w1.heap.size v o/\Below w1.heap.size w1 wr/\Box (iL [] true (pb.map lst)=iL (o.map lst) (decide (k=0)) ((pb.map lst).drop k))/\Box (k<c+1->vZ (o.map lst))/\Box (k=0->o=[])) (fun _ i _=>c+1 - (intOf i).toNat)
 case atStart=>exact⟨0,[],Ws _,rfl,GL _,aV.nil _ _,Below.refl _ _,⟨rfl⟩,⟨fun _ x hx=>absurd hx (by simp)⟩,⟨fun _=>rfl⟩⟩
 case round=>
  obtain⟨k,o,hk,rfl,hol,hown,hb,HD,HF,HZ⟩:=hrel
  have hsz:=hb.size
  by_cases hlt:k<c+1
  ·obtain⟨x,HX,hx⟩:∃x,Box (pb[k]?=some x)/\wr.cell? ⟨w.heap.size,k,none⟩=some (.string x):=
    ⟨_,⟨Z4 (by omega)⟩,(hb.cell (p:=⟨w.heap.size,k,none⟩) (show w.heap.size<_ by omega)).trans (HC.o k (by omega))⟩
   have HS:Box (iL [] true (pb.map lst)=iL (gX (o.map lst) (decide (k=0)) (lst x) (decide (k=c))) (decide (k+1=0)) ((pb.map lst).drop (k+1))):=⟨Nt HD.o HX.o (by omega) hpl⟩
   have HF':Box (k+1<c+1->vZ (gX (o.map lst) (decide (k=0)) (lst x) (decide (k=c)))):=⟨fun h=>by rw[decide_eq_false (show ¬k=c by omega)];exact H9 (HF.o hlt) (fun h0=>by rw[HZ.o (of_decide_eq_true h0)];rfl)⟩
   have HUp:Box (upP (o.map lst)=tq (o.map lst)):=⟨Wp (HF.o hlt)⟩
   have HZ':Box (k+1=0->o=[]):=⟨fun h=>absurd h (by omega)⟩
   clear HD HF HZ HX HP HC
   by_cases hdd:lst x=gP
   ·have q2:(x.toList==[46,46])=true:=SH hdd
    have q1:(x.toList==[46])=false:=Gi (by rw[hdd];decide)
    go_wp2_with fail
    refine(YA _ o wr _ hown (by omega)).mono ?_
    rintro e w2 ⟨v2,o2,rfl,hown2,hm2,hl2,rfl⟩
    have HM:Box (o2.map lst=tq (o.map lst)):=⟨hm2.trans HUp.o⟩
    clear hm2 hown
    by_cases hkc:k=c
    ·have q3:((k:Int)==(c:Int))=true:=Ki (by omega)
     have HE:Box (gX (o.map lst) (decide (k=0)) (lst x) (decide (k=c))=(o2++[(⟨#[]⟩:ByteArray)]).map lst):=⟨by rw[ZV,HM.o,hdd,decide_eq_true hkc];exact Ez _ _⟩
     have HKc:=Box.m hkc
     clear hkc hdd
     go_wp2_with (at_builtin;refine oK _ w1 rfl _ _ rfl w1.heap.size v2 o2 rfl (by exact hown2) ⟨#[]⟩ rfl (by omega) (by exact hsz) (by exact hb) ?_;intro v3 w3 hown3 hb3)
     go_roundw
     case rel=>exact⟨k+1,o2++[⟨#[]⟩],by omega,by go_num,by simp;omega,hown3,hb3,⟨by rw[HS.o,HE.o]⟩,⟨fun h=>by have:=HKc.o;omega⟩,⟨fun h=>absurd h (by omega)⟩⟩
     case measure=>simp[intOf];omega
    ·have q3:((k:Int)==(c:Int))=false:=Ef (by omega)
     have HE:Box (gX (o.map lst) (decide (k=0)) (lst x) (decide (k=c))=o2.map lst):=⟨by rw[HM.o,hdd,decide_eq_false hkc];exact UR _ _⟩
     clear hkc hdd
     go_wp2
     go_roundw
     case rel=>exact⟨k+1,o2,by omega,by go_num,by omega,hown2,hb,⟨by rw[HS.o,HE.o]⟩,⟨fun h=>by rw[<-HE.o];exact HF'.o h⟩,⟨fun h=>absurd h (by omega)⟩⟩
     case measure=>simp[intOf];omega
   ·have q2:(x.toList==[46,46])=false:=Gi hdd
    by_cases hd:lst x=dot
    ·have q1:(x.toList==[46])=true:=SH hd
     by_cases hkc:k=c
     ·have q3:((k:Int)==(c:Int))=true:=Ki (by omega)
      have HE:Box (gX (o.map lst) (decide (k=0)) (lst x) (decide (k=c))=(o++[(⟨#[]⟩:ByteArray)]).map lst):=⟨by rw[ZV,hd,decide_eq_true hkc];exact Gl _ _⟩
      have HKc:=Box.m hkc
      clear hkc hdd hd
      go_wp2_with (at_builtin;refine oK _ w1 rfl _ _ rfl w1.heap.size _ o rfl (by exact hown) ⟨#[]⟩ rfl (by omega) (by exact hsz) (by exact hb) ?_;intro v3 w3 hown3 hb3)
      go_roundw
      case rel=>exact⟨k+1,o++[⟨#[]⟩],by omega,by go_num,by simp;omega,hown3,hb3,⟨by rw[HS.o,HE.o]⟩,⟨fun h=>by have:=HKc.o;omega⟩,⟨fun h=>absurd h (by omega)⟩⟩
      case measure=>simp[intOf];omega
     ·have q3:((k:Int)==(c:Int))=false:=Ef (by omega)
      have HE:Box (gX (o.map lst) (decide (k=0)) (lst x) (decide (k=c))=o.map lst):=⟨by rw[hd,decide_eq_false hkc];exact VN _ _⟩
      clear hkc hdd hd
      go_wp2
      go_roundw
      case rel=>exact⟨k+1,o,by omega,by go_num,by omega,hown,hb,⟨by rw[HS.o,HE.o]⟩,⟨fun h=>by rw[<-HE.o];exact HF'.o h⟩,⟨fun h=>absurd h (by omega)⟩⟩
      case measure=>simp[intOf];omega
    ·have q1:(x.toList==[46])=false:=Gi hd
     by_cases hsk:x.size=0/\¬k=0/\¬k=c
     ·have q0:=dC x hsk.1
      have q3:((k:Int)==(c:Int))=false:=Ef (by omega)
      have q4:((k:Int)==0)=false:=Ef (by omega)
      have HE:Box (gX (o.map lst) (decide (k=0)) (lst x) (decide (k=c))=o.map lst):=⟨by rw[show lst x=[]from fZ x hsk.1,decide_eq_false hsk.2.1,decide_eq_false hsk.2.2];rfl⟩
      clear hsk hdd hd
      go_wp2
      go_roundw
      case rel=>exact⟨k+1,o,by omega,by go_num,by omega,hown,hb,⟨by rw[HS.o,HE.o]⟩,⟨fun h=>by rw[<-HE.o];exact HF'.o h⟩,⟨fun h=>absurd h (by omega)⟩⟩
      case measure=>simp[intOf];omega
     ·have HE:Box (gX (o.map lst) (decide (k=0)) (lst x) (decide (k=c))=(o++[x]).map lst):=⟨by rw[ZV];exact U2 _ _ _ _ hd hdd (fun h=>hsk ⟨by rw[<-ae];exact congrArg List.length h.1,of_decide_eq_false h.2.2,of_decide_eq_false h.2.1⟩)⟩
      have hcs3:x.toList.isEmpty=false\/(x.toList.isEmpty=true/\((k:Int)==0)=true)\/(x.toList.isEmpty=true/\((k:Int)==0)=false/\((k:Int)==(c:Int))=true):=by
       by_cases h0:x.size=0
       ·by_cases hk0:k=0
        ·exact .inr (.inl ⟨dC x h0,Ki (by omega)⟩)
        ·exact .inr (.inr ⟨dC x h0,Ef (by omega),Ki (by have:¬¬k=c:=fun h=>hsk ⟨h0,hk0,h⟩;omega)⟩)
       ·exact .inl (bN x h0)
      clear hsk hdd hd
      rcases hcs3 with q0|⟨q0,q4⟩|⟨q0,q4,q3⟩
      all_goals
       go_wp2_with (at_builtin;refine oK _ w1 rfl _ _ rfl w1.heap.size _ o rfl (by exact hown) x rfl (by omega) (by exact hsz) (by exact hb) ?_;intro v3 w3 hown3 hb3)
       go_roundw
       case rel=>exact⟨k+1,o++[x],by omega,by go_num,by simp;omega,hown3,hb3,⟨by rw[HS.o,HE.o]⟩,⟨fun h=>by rw[<-HE.o];exact HF'.o h⟩,⟨fun h=>absurd h (by omega)⟩⟩
       case measure=>simp[intOf];omega
  ·have HE:Box (o.map lst=iL [] true (dh s.data.toList)):=⟨by rw[<-HP.o,HD.o,List.drop_of_length_le (by simp;omega)];cases decide (k=0)<;>rfl⟩
   clear HD HF HZ HC HP
   have b2:=hb1.trans (hb.mono (by omega))
   rcases hown.shape with⟨rfl,rfl⟩|⟨g,cap,rfl,hB,hg,hcap,hmax,hcells⟩
   ·exfalso
    exact(zV s.data.toList).1 HE.o.symm
   ·have HCl:=Box.m hcells
    clear hcells hown
    go_wp2_with fail
    refine(Qx g cap o wr s HE.o HCl.o hg hcap (by omega) hs).mono ?_
    rintro e w2 ⟨S,rfl,hS,hb3⟩
    go_wp2
    go_ret
    exact⟨S,rfl,hS,b2.trans (hb3.mono (Xu hb1.size hsz))⟩
structure Blk(w:World)(b:Nat)(v0 v1 v2 v3 v4 v5 v6 v7:Value):Prop where
 c0:w.cell? ⟨b,0,none⟩=some v0
 c1:w.cell? ⟨b,1,none⟩=some v1
 c2:w.cell? ⟨b,2,none⟩=some v2
 c3:w.cell? ⟨b,3,none⟩=some v3
 c4:w.cell? ⟨b,4,none⟩=some v4
 c5:w.cell? ⟨b,5,none⟩=some v5
 c6:w.cell? ⟨b,6,none⟩=some v6
 c7:w.cell? ⟨b,7,none⟩=some v7
 fz:∀i,w.frozen? ⟨b,i,none⟩=false
theorem dU{w:World}{b:Nat}{v0 v1 v2 v3 v4 v5 v6 v7:Value}(h:w.heap[b]?=some (.cells #[v0,v1,v2,v3,v4,v5,v6,v7] 60 (0,0))):Blk w b v0 v1 v2 v3 v4 v5 v6 v7:=
 ⟨by simp[World.cell?,h],by simp[World.cell?,h],by simp[World.cell?,h],by simp[World.cell?,h],by simp[World.cell?,h],by simp[World.cell?,h],by simp[World.cell?,h],by simp[World.cell?,h],fun i=>by simp[World.frozen?,h]⟩
theorem kN(w:World)(A B Z:Obj):(((w.alloc A).alloc B).alloc Z).heap[w.heap.size]?=some A/\(((w.alloc A).alloc B).alloc Z).heap[w.heap.size+1]?=some B/\(((w.alloc A).alloc B).alloc Z).heap[w.heap.size+2]?=some Z:=by
 refine⟨?_,?_,?_⟩
 ·show((((w.heap.push A).push B).push Z))[w.heap.size]?=_
  rw[Z6,if_neg (by simp;omega),Z6,if_neg (by simp),Z6,if_pos rfl]
 ·show((((w.heap.push A).push B).push Z))[w.heap.size+1]?=_
  rw[Z6,if_neg (by simp),Z6,if_pos (by simp)]
 ·show((((w.heap.push A).push B).push Z))[w.heap.size+2]?=_
  rw[Z6,if_pos (by simp)]
theorem wX(w:World)(A B Z:Obj):(((w.alloc A).alloc B).alloc Z).heap.size=w.heap.size+3:=by simp
theorem iO(w:World)(A B Z:Obj):Below w.heap.size w (((w.alloc A).alloc B).alloc Z):=(((Below.refl w.heap.size w).alloc af _).alloc (by simp) _).alloc (by simp;omega) _
theorem U9{B:Nat}{a w:World}(h:Below B a w)(n:Nat):Below B a (w.drewN n):=h.trans ⟨rfl,rfl,rfl,GL _,fun _ _=>rfl⟩
def rH(b:AB)(p:aa):aa:=if p.head?=some 47 then p else GX b++p
theorem FO(t:aa):Lib.hasPrefix t [47]=decide (t.head?=some 47):=by
 unfold Lib.hasPrefix
 cases t with
 | nil=>rfl
 | cons a t=>
  rw[Bool.eq_iff_iff]
  simp only[List.isPrefixOf,Bool.and_true,beq_iff_eq,decide_eq_true_eq,List.head?_cons,Option.some.injEq]
  exact eq_comm
theorem QC(pa:ByteArray)(z:Int)(hz:Lib.lastIndexByte pa 47=z)(hs:pa.size<=400000)(w:World):Calls prog 169 #[.string pa,.int .u8 47] w fun e w'=>e=.returned (.int .i64 z)/\w'=w:=by
 refine(Tryz.strings_LastIndexByte pa 47 (by omega) w).mono ?_
 rintro e w' ⟨rfl,rfl⟩
 exact⟨lv hz,rfl⟩
theorem N7(sc au pa qu fr p:ByteArray)(hA hQ hF:Bool)(w:World)(s2:pa.size<=400000)(s5:p.size<=400000):
  Calls prog 107 #[.agg #[.string sc,.bool hA,.string au,.string pa,.bool hQ,.string qu,.bool hF,.string fr],.string p] w fun e w'=>∃S:ByteArray,e=.returned (.string S)/\S.data.toList=rH (AV.ab ⟨sc,hA,au,pa,hQ,qu,hF,fr⟩) p.data.toList/\S.size<=pa.size+p.size+1/\Below w.heap.size w w':=by
 have hb:=(Below.refl w.heap.size w).alloc af (.cells #[.string sc,.bool hA,.string au,.string pa,.bool hQ,.string qu,.bool hF,.string fr] 60)
 cases h1:decide (p.data.toList.head?=some 47)
 ·have HB:Box (rH (AV.ab ⟨sc,hA,au,pa,hQ,qu,hF,fr⟩) p.data.toList=GX (AV.ab ⟨sc,hA,au,pa,hQ,qu,hF,fr⟩)++p.data.toList):=⟨by unfold rH;rw[if_neg (of_decide_eq_false h1)]⟩
  have h1':=Box.m ((FO p.data.toList).trans h1)
  clear h1
  by_cases h2:hA=true/\pa.size=0
  ·obtain⟨rfl,h3⟩:=h2
   have he:=dC pa h3
   have HD:Box (GX (AV.ab ⟨sc,true,au,pa,hQ,qu,hF,fr⟩)=[47]):=⟨by unfold GX;rw[if_pos ⟨rfl,fZ pa h3⟩]⟩
   clear h3
   go_enter func107,ntmps107
   go_wp2_with fail
   refine(Tryz.strings_HasPrefix p ⟨#[47]⟩ _).mono ?_
   rintro e w1 ⟨rfl,rfl⟩
   rw[show(⟨#[47]⟩:ByteArray).data.toList=[47]from rfl,h1'.o]
   go_wp2
   go_ret
   exact⟨_,rfl,by rw[HB.o,HD.o];simp,by rw[ByteArray.size_append];show 1+p.size<=_;omega,hb⟩
  ·have HD:Box (GX (AV.ab ⟨sc,hA,au,pa,hQ,qu,hF,fr⟩)=xV pa.data.toList):=⟨by unfold GX;rw[if_neg (fun h=>h2 ⟨h.1,by rw[<-ae];exact congrArg List.length h.2⟩)];rfl⟩
   have hcs:hA=false\/(hA=true/\pa.toList.isEmpty=false):=by
    cases hA
    ·exact .inl rfl
    ·exact .inr ⟨rfl,bN pa (fun h=>h2 ⟨rfl,h⟩)⟩
   clear h2
   obtain⟨z,hz,n,hn,hnn,HN⟩:∃z:Int,Lib.lastIndexByte pa 47=z/\∃n:Nat,IntKind.i64.wrap (z+1)=(n:Int)/\n<=pa.size/\Box (xV pa.data.toList=(pa.extract 0 n).data.toList):=by
    rcases M8 pa with⟨h,h'⟩|⟨i,hi,h,h'⟩
    ·refine⟨-1,h,0,by decide,Ws _,⟨by rw[h',aB];rfl⟩⟩
    ·refine⟨i,h,i+1,?_,hi,⟨by rw[h',aB];simp⟩⟩
     rw[IntKind.wrap_i64];omega
   rcases hcs with rfl|⟨rfl,he⟩
   all_goals
    go_enter func107,ntmps107
    go_wp2_with fail
    refine(Tryz.strings_HasPrefix p ⟨#[47]⟩ _).mono ?_
    rintro e w1 ⟨rfl,rfl⟩
    rw[show(⟨#[47]⟩:ByteArray).data.toList=[47]from rfl,h1'.o]
    go_wp2
    have hsum:¬9223372036854775807<n+p.size:=by omega
    have hsz:(pa.extract 0 n).size=n:=by simp;omega
    go_quiet (first|(go_at_call 169;refine Calls.quiet_of_same (QC pa z hz s2 _)))
    go_wp2
    go_ret
    exact⟨_,rfl,by rw[HB.o,HD.o,HN.o];simp,by rw[ByteArray.size_append];omega,U9 hb _⟩
 ·have HB:Box (rH (AV.ab ⟨sc,hA,au,pa,hQ,qu,hF,fr⟩) p.data.toList=p.data.toList):=⟨by unfold rH;rw[if_pos (of_decide_eq_true h1)]⟩
  have h1':=Box.m ((FO p.data.toList).trans h1)
  clear h1
  go_enter func107,ntmps107
  go_wp2_with fail
  refine(Tryz.strings_HasPrefix p ⟨#[47]⟩ _).mono ?_
  rintro e w1 ⟨rfl,rfl⟩
  rw[show(⟨#[47]⟩:ByteArray).data.toList=[47]from rfl,h1'.o]
  go_wp2
  go_ret
  exact⟨_,rfl,HB.o.symm,by omega,hb⟩
abbrev ma(sc:ByteArray)(hA:Bool)(au pa:ByteArray)(hQ:Bool)(qu:ByteArray)(hF:Bool)(fr:ByteArray):Value:=.agg #[.string sc,.bool hA,.string au,.string pa,.bool hQ,.string qu,.bool hF,.string fr]
abbrev ko(sc:ByteArray)(hA:Bool)(au pa:ByteArray)(hQ:Bool)(qu:ByteArray)(hF:Bool)(fr:ByteArray):Obj:=.cells #[.string sc,.bool hA,.string au,.string pa,.bool hQ,.string qu,.bool hF,.string fr] 60
theorem IC(sc0 au0 pa0 qu0 fr0 sc au pa qu fr:ByteArray)(hA0 hQ0 hF0 hA hQ hF:Bool)(w:World)(s2:pa.size<=1000000)(hm:Max w)(h0:¬sc.size=0):
  Calls prog 58 #[ma sc0 hA0 au0 pa0 hQ0 qu0 hF0 fr0,ma sc hA au pa hQ qu hF fr] w fun e w'=>(∃S:ByteArray,e=.returned (ma sc hA au S hQ qu hF fr)/\S.data.toList=lS pa.data.toList)/\Below w.heap.size w w':=by
 have he:=bN sc h0
 have hw0:=hm.1
 have HMx:=Box.m hm
 clear h0 hm
 go_enter func58,ntmps58
 go_wp2_with fail
 refine(uE pa _ (by omega) (HMx.o.below (iO w _ _ _) hw0)).mono ?_
 rintro e w1 ⟨S,rfl,hS,hb1⟩
 have hsz1:=hb1.size
 obtain⟨x0,x1,x2,x3,x4,x5,x6,x7,xf⟩:=dU ((hb1.block (w.heap.size+1) (by simp)).trans (kN w _ _ _).2.1)
 obtain⟨y0,y1,y2,y3,y4,y5,y6,y7,yf⟩:=dU ((hb1.block (w.heap.size+2) (by simp)).trans (kN w _ _ _).2.2)
 have b1:=(iO w (ko sc0 hA0 au0 pa0 hQ0 qu0 hF0 fr0) (ko sc hA au pa hQ qu hF fr) sW).trans (hb1.mono (by show _<=(((w.alloc _).alloc _).alloc _).heap.size;rw[wX];omega))
 clear hb1
 go_wp2
 refine bodyPost_ret (v:=ma sc hA au S hQ qu hF fr) (by simp[results,results58,go_sem,y0,y1,y2,y3,y4,y5,y6,y7]) rfl ⟨⟨S,rfl,hS⟩,?_⟩
 iterate 9 (refine Below.setCell ?_ (by simp<;>omega) _)
 exact b1
theorem Qo(sc0 au0 pa0 qu0 fr0 sc au pa qu fr:ByteArray)(hA0 hQ0 hF0 hQ hF:Bool)(w:World)(s2:pa.size<=1000000)(hm:Max w)(h0:sc.size=0):
  Calls prog 58 #[ma sc0 hA0 au0 pa0 hQ0 qu0 hF0 fr0,ma sc true au pa hQ qu hF fr] w fun e w'=>(∃S:ByteArray,e=.returned (ma sc0 true au S hQ qu hF fr)/\S.data.toList=lS pa.data.toList)/\Below w.heap.size w w':=by
 have he:=dC sc h0
 have hw0:=hm.1
 have HMx:=Box.m hm
 clear h0 hm
 go_enter func58,ntmps58
 go_wp2_with fail
 refine(uE pa _ (by omega) (HMx.o.below (iO w _ _ _) hw0)).mono ?_
 rintro e w1 ⟨S,rfl,hS,hb1⟩
 have hsz1:=hb1.size
 obtain⟨x0,x1,x2,x3,x4,x5,x6,x7,xf⟩:=dU ((hb1.block (w.heap.size+1) (by simp)).trans (kN w _ _ _).2.1)
 obtain⟨y0,y1,y2,y3,y4,y5,y6,y7,yf⟩:=dU ((hb1.block (w.heap.size+2) (by simp)).trans (kN w _ _ _).2.2)
 have b1:=(iO w (ko sc0 hA0 au0 pa0 hQ0 qu0 hF0 fr0) (ko sc0 true au pa hQ qu hF fr) sW).trans (hb1.mono (by show _<=(((w.alloc _).alloc _).alloc _).heap.size;rw[wX];omega))
 clear hb1
 go_wp2
 refine bodyPost_ret (v:=ma sc0 true au S hQ qu hF fr) (by simp[results,results58,go_sem,y0,y1,y2,y3,y4,y5,y6,y7]) rfl ⟨⟨S,rfl,hS⟩,?_⟩
 iterate 9 (refine Below.setCell ?_ (by simp<;>omega) _)
 exact b1
theorem Qn(sc0 au0 pa0 qu0 fr0 sc au pa qu fr:ByteArray)(hA0 hQ0 hF0 hQ hF:Bool)(w:World)(s1:pa0.size<=400000)(s2:pa.size<=400000)(hm:Max w)(h0:sc.size=0)(h1:¬pa.size=0):
  Calls prog 58 #[ma sc0 hA0 au0 pa0 hQ0 qu0 hF0 fr0,ma sc false au pa hQ qu hF fr] w fun e w'=>(∃S:ByteArray,e=.returned (ma sc0 hA0 au0 S hQ qu hF fr)/\S.data.toList=lS (rH (AV.ab ⟨sc0,hA0,au0,pa0,hQ0,qu0,hF0,fr0⟩) pa.data.toList))/\Below w.heap.size w w':=by
 have he:=dC sc h0
 have hp:=bN pa h1
 have hw0:=hm.1
 have HMx:=Box.m hm
 clear h0 hm h1
 go_enter func58,ntmps58
 go_wp2
 go_region
 go_wp2_with fail
 refine(N7 sc0 au0 pa0 qu0 fr0 pa hA0 hQ0 hF0 _ s1 s2).mono ?_
 rintro e w1 ⟨P,rfl,hP,hPs,hb1⟩
 have hsz1:=hb1.size
 have b0:=(iO w (ko sc0 hA0 au0 pa0 hQ0 qu0 hF0 fr0) (ko sc0 hA0 au0 pa hQ qu hF fr) sW).drew.trans (hb1.mono (by show _<=(((w.alloc _).alloc _).alloc _).heap.size;rw[wX];omega))
 go_wp2_with fail
 refine(uE P _ (by omega) (HMx.o.below b0 hw0)).mono ?_
 rintro e w2 ⟨S,rfl,hS,hb2⟩
 have hsz2:=hb2.size
 rw[hP]at hS
 have hb3:=hb1.trans (hb2.mono hsz1)
 obtain⟨x0,x1,x2,x3,x4,x5,x6,x7,xf⟩:=dU ((hb3.block (w.heap.size+1) (by simp)).trans (kN w _ _ _).2.1)
 obtain⟨y0,y1,y2,y3,y4,y5,y6,y7,yf⟩:=dU ((hb3.block (w.heap.size+2) (by simp)).trans (kN w _ _ _).2.2)
 have b1:=b0.trans (hb2.mono (Xu b0.size af))
 clear hb1 hb2 hb3 b0
 go_wp2
 refine bodyPost_ret (v:=ma sc0 hA0 au0 S hQ qu hF fr) (by simp[results,results58,go_sem,y0,y1,y2,y3,y4,y5,y6,y7]) rfl ⟨⟨S,rfl,hS⟩,?_⟩
 iterate 9 (refine Below.setCell ?_ (by simp<;>omega) _)
 exact b1
theorem Lm(sc0 au0 pa0 qu0 fr0 sc au pa qu fr:ByteArray)(hA0 hQ0 hF0 hF:Bool)(w:World)(h0:sc.size=0)(h1:pa.size=0):
  Calls prog 58 #[ma sc0 hA0 au0 pa0 hQ0 qu0 hF0 fr0,ma sc false au pa true qu hF fr] w fun e w'=>e=.returned (ma sc0 hA0 au0 pa0 true qu hF fr)/\Below w.heap.size w w':=by
 have he:=dC sc h0
 have hp:=dC pa h1
 clear h0 h1
 go_enter func58,ntmps58
 go_wp2
 go_region
 go_wp2
 exact bodyPost_ret (v:=ma sc0 hA0 au0 pa0 true qu hF fr) (by simp[results,results58,go_sem]) rfl ⟨rfl,(iO w _ _ _).drew⟩
theorem QE(sc0 au0 pa0 qu0 fr0 sc au pa qu fr:ByteArray)(hA0 hQ0 hF0 hF:Bool)(w:World)(h0:sc.size=0)(h1:pa.size=0):
  Calls prog 58 #[ma sc0 hA0 au0 pa0 hQ0 qu0 hF0 fr0,ma sc false au pa false qu hF fr] w fun e w'=>e=.returned (ma sc0 hA0 au0 pa0 hQ0 qu0 hF fr)/\Below w.heap.size w w':=by
 have he:=dC sc h0
 have hp:=dC pa h1
 clear h0 h1
 go_enter func58,ntmps58
 go_wp2
 go_region
 go_wp2
 go_region
 go_wp2
 exact bodyPost_ret (v:=ma sc0 hA0 au0 pa0 hQ0 qu0 hF fr) (by simp[results,results58,go_sem]) rfl ⟨rfl,(iO w _ _ _).drew.drew⟩
end Go.Proofs.YtkldkhdigkpniaaGreatDoor
