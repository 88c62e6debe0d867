import Derived.Test.YtkldkhdigkpniaaGreatDoorZ13
import Derived.Test.YtkldkhdigkpniaaGreatDoorZ2
set_option maxHeartbeats 1000000
set_option maxRecDepth 100000
open Nat renaming le_refl → GL, le_trans → VQ, lt_succ_self → Ws, le_of_eq → Xu
open List renaming length_take → ZV, drop_of_length_le → ZW, length_drop → ZX, length_cons → ZY, getElem?_eq_some_iff → ZZ, length_map → Z0, getElem?_eq_getElem → Z4, map_append → Z5
namespace Go.Proofs.YtkldkhdigkpniaaGreatDoor
open Go.RowKit Go.Proofs.Tryz
theorem Jd(b n d:Nat)(w:World)(h:CI w b n)(hn:n<=1000000)(hd:d<=1000000)(hx:40<=n\/4<=d):
  Calls prog 196 #[.pointer (some ⟨b,0,none⟩),.int .i64 d] w fun e w'=>e=.returned (.iface 25 (.int .i64 4))/\w'=w:=by
 obtain⟨c,f,lt⟩:=h
 by_cases h1:40<=n
 ·clear hx
  go_enter func196,ntmps196
  go_wp2
  go_ret
  exact⟨rfl,rfl⟩
 ·have h2:4<=d:=by omega
  clear hx
  go_enter func196,ntmps196
  go_wp2
  go_ret
  exact⟨rfl,rfl⟩
theorem uU(b n d:Nat)(w:World)(h:CI w b n)(h1:¬40<=n)(h2:¬4<=d):
  Calls prog 196 #[.pointer (some ⟨b,0,none⟩),.int .i64 d] w fun e w'=>e=.returned .nilIface/\CI w' b (n+1)/\w.grownBy w' (some b):=by
 have HC:Box (CI (w.setCell ⟨b,0,none⟩ (.int .i64 ((n:Int)+1))) b (n+1)):=⟨h.set (n+1)⟩
 obtain⟨c,f,lt⟩:=h
 go_enter func196,ntmps196
 go_wp2
 go_ret
 exact⟨rfl,HC.o,iT _ _ _ _⟩
theorem NI(l x:aa)(h:x∈bK l):x.length<=l.length:=by
 obtain⟨u,v,rfl⟩:=yT l x h
 simp;omega
theorem Qg(s:ByteArray)(w:World)(hs:s.size<=100000)(hm:Max w):
  Calls prog 76 #[.string s,.string ⟨#[13,10]⟩] w fun e w'=>∃(n:Nat) (L:List ByteArray),e=.returned (.slice (some ⟨w.heap.size,0,none⟩) n n)/\L.length=n/\n<=100001/\(∀k (hk:k<L.length),w'.cell? ⟨w.heap.size,k,none⟩=some (.string L[k]))/\(∀x∈L,x.size<=s.size)/\L.map lst=bK s.data.toList/\w.heap.size<w'.heap.size/\Below w.heap.size w w':=by
 obtain⟨_,m,hm⟩:=hm
 refine(Tryz.strings_Split s ⟨#[13,10]⟩ m w (by omega) hm (by decide)).mono ?_
 rintro e w' ⟨rfl,rfl⟩
 have hlen:=Lib.splitB_all ⟨#[13,10]⟩ (by decide) 0 _ s rfl
 have hcnt:=Lib.countB_le ⟨#[13,10]⟩ (by decide) _ s af
 refine⟨_,Lib.splitB ⟨#[13,10]⟩ 0 (Lib.countB s ⟨#[13,10]⟩) s,rfl,hlen,by omega,?_,?_,oq _ s (Ws _),by simp,ag.alloc af _⟩
 ·intro k hk
  simp
 ·intro x hx
  have hx':lst x∈bK s.data.toList:=by rw[<-oq _ s (Ws _)];exact List.mem_map_of_mem hx
  have:=NI _ _ hx'
  unfold lst at this
  rw[ae,ae]at this
  exact this
def Zx(o:Option Bool)(e:Ending):Prop:=∃q1 q2:Bool,e=.returned (.tuple #[.bool q1,.bool q2])/\((o=none/\q1=false/\q2=false)\/(o=some false/\q1=true/\q2=false)\/(o=some true/\q1=false/\q2=true))
theorem yX(b:ByteArray):((⟨#[45,45]⟩:ByteArray)++b).data.toList=gU b.data.toList:=by simp[gU]
theorem D5(x p:aa)(h:Lib.hasPrefix x p=true):Lib.trimPrefix x p=x.drop p.length:=by
 unfold Lib.trimPrefix
 rw[h];simp
theorem Rt(x b:ByteArray)(w:World)(hx:x.size<=100000)(hb:b.size<=100000):
  Calls prog 275 #[.string x,.string b] w fun e w'=>Zx (ky b.data.toList x.data.toList) e/\Below w.heap.size w w':=by
 have hsum:¬9223372036854775807<2+b.size:=by omega
 cases hp:Lib.hasPrefix x.data.toList (gU b.data.toList)
 ·have HM:Box (ky b.data.toList x.data.toList=none):=⟨by unfold ky;rw[if_neg (by rw[show(gU b.data.toList).isPrefixOf x.data.toList=Lib.hasPrefix x.data.toList (gU b.data.toList)from rfl,hp];decide)]⟩
  rw[HM.o]
  have hp':=Box.m hp
  clear hp
  go_enter func275,ntmps275
  go_wp2_with fail
  refine(Tryz.strings_CutPrefix x _ _).mono ?_
  rintro e w1 ⟨rfl,rfl⟩
  rw[yX,hp'.o]
  go_wp2
  go_ret2
  exact⟨⟨false,false,rfl,.inl ⟨rfl,rfl,rfl⟩⟩,Below.refl _ _⟩
 ·have HM:Box (ky b.data.toList x.data.toList=if trimS (x.data.toList.drop (gU b.data.toList).length)=[] then some false else if trimS (x.data.toList.drop (gU b.data.toList).length)=[45,45] then some true else none):=⟨by unfold ky;rw[if_pos (by rw[show(gU b.data.toList).isPrefixOf x.data.toList=Lib.hasPrefix x.data.toList (gU b.data.toList)from rfl,hp])]⟩
  obtain⟨r,HR⟩:∃r:ByteArray,Box (r.data.toList=x.data.toList.drop (gU b.data.toList).length):=⟨⟨(x.data.toList.drop (gU b.data.toList).length).toArray⟩,⟨rfl⟩⟩
  have hr:r.size<=100000:=by rw[<-ae,HR.o,ZX,ae];omega
  have hE:(ByteArray.mk (Lib.trimPrefix x.data.toList (gU b.data.toList)).toArray)=r:=by
   rw[D5 _ _ hp,<-HR.o]
  have hp':=Box.m hp
  have HE:=Box.m hE
  clear hp hE
  obtain⟨R,HQ⟩:∃R,Box (R=ky b.data.toList x.data.toList):=⟨_,⟨rfl⟩⟩
  rw[<-HQ.o]
  go_enter func275,ntmps275
  go_wp2_with fail
  refine(Tryz.strings_CutPrefix x _ _).mono ?_
  rintro e w1 ⟨rfl,rfl⟩
  rw[yX,hp'.o,HE.o]
  go_wp2_with fail
  refine(yQ r _ (by omega)).mono ?_
  rintro e w2 ⟨t,rfl,ht,hb2⟩
  rw[HM.o,<-HR.o,<-ht]at HQ
  clear ht HM HR HE hp'
  go_wp2
  go_ret2
  refine⟨⟨_,_,rfl,?_⟩,hb2⟩
  rw[HQ.o,ByteArray.toList_eq]
  by_cases e1:t.data.toList=[]
  ·rw[if_pos e1,e1]
   exact .inr (.inl ⟨rfl,rfl,rfl⟩)
  ·rw[if_neg e1]
   have e3:t.data.toList.isEmpty=false:=by rw[<-Bool.not_eq_true,List.isEmpty_iff];exact e1
   by_cases e2:t.data.toList=[45,45]
   ·rw[if_pos e2,e2]
    exact .inr (.inr ⟨rfl,rfl,rfl⟩)
   ·rw[if_neg e2]
    refine .inl ⟨rfl,e3,?_⟩
    rw[beq_eq_false_iff_ne];exact e2
def wt(ls:List (aa)):Nat:=(ls.map fun x=>x.length+2).sum
theorem Rz(a b:List (aa)):wt (a++b)=wt a+wt b:=by simp[wt]
theorem AJ(a:aa)(b:List (aa)):wt (a::b)=a.length+2+wt b:=by simp[wt]
theorem Az:∀xs:List (aa),xs≠[]->(fK xs).length+2=wt xs
 | [],h=>absurd rfl h
 | [x],_=>by simp[fK,wt]
 | x::y::r,_=>by
  rw[fK,AJ,List.length_append,ZY,ZY]
  have:=Az (y::r) (by simp)
  omega
theorem MO(b:aa):∀(ls:List (aa)) (begun:Bool) (cur xs:List (aa)),uY b ls begun cur=some xs->∀x∈xs,x.length+2<=wt cur+wt ls
 | [],_,_,_,h=>by cases h
 | y::r,begun,cur,xs,h=>by
  unfold uY at h
  rw[AJ]
  have hj:(fK cur).length+2<=wt cur+2:=by
   by_cases hc:cur=[]
   ·subst hc;simp[fK]
   ·have:=Az cur hc;omega
  cases hm:ky b y with
  | none=>
   rw[hm]at h
   intro x hx
   have:=MO b r begun _ xs h x hx
   rw[Rz,AJ]at this
   simp[wt]at this ⊢
   omega
  | some q=>
   rw[hm]at h
   cases q with
   | true=>
    simp only[Option.some.injEq]at h
    subst h
    intro x hx
    cases begun with
    | false=>simp at hx
    | true=>
     have:x=fK cur:=by simpa using hx
     subst this
     omega
   | false=>
    simp only[Option.map_eq_some_iff]at h
    obtain⟨o,ho,rfl⟩:=h
    intro x hx
    have ih:=MO b r true [] o ho
    cases begun with
    | false=>
     have:=ih x (by simpa using hx)
     simp[wt]at this ⊢
     omega
    | true=>
     rcases List.mem_cons.1 (by simpa using hx:x∈fK cur::o)with rfl|hx
     ·omega
     ·have:=ih x hx
      simp[wt]at this ⊢
      omega
theorem ut(b s:aa)(xs:List (aa))(h:dV b s=some xs):∀x∈xs,x.length<=s.length:=by
 intro x hx
 have h1:=MO b _ _ _ _ h x hx
 have h2:=Az (bK s) (qc s)
 rw[oP]at h2
 simp[wt]at h1 h2
 omega
def CS(b:aa)(LL:List (aa))(T:Option (List (aa)))(k:Nat)(z:Int)(out:List (aa)):Prop:=
 (z=-1/\T=(uY b (LL.drop k) false []).map (out++·))\/(∃f:Nat,z=f/\f<=k/\T=(uY b (LL.drop k) true ((LL.take k).drop f)).map (out++·))
theorem oN{α:Type}(L:List α)(k:Nat)(x:α)(h:L[k]?=some x):L.drop k=x::L.drop (k+1):=by
 obtain⟨hk,e⟩:=ZZ.1 h
 rw[<-e];exact(List.getElem_cons_drop (h:=hk)).symm
theorem BS{α:Type}(L:List α)(k f:Nat)(x:α)(h:L[k]?=some x)(hf:f<=k):(L.take (k+1)).drop f=(L.take k).drop f++[x]:=by
 have hk:=(ZZ.1 h).1
 rw[bV L k x h,List.drop_append_of_le_length (by rw[ZV];omega)]
theorem Vp{b:aa}{LL:List (aa)}{T:Option (List (aa))}{k:Nat}{z:Int}{out:List (aa)}(h:CS b LL T k z out)(x:aa)(hx:LL[k]?=some x)(hm:ky b x=none):CS b LL T (k+1) z out:=by
 rcases h with⟨hz,h⟩|⟨f,hz,hf,h⟩
 ·refine .inl ⟨hz,?_⟩
  rw[h,oN LL k x hx,uY,hm]
  exact congrArg _ (EG b _ _ _)
 ·refine .inr ⟨f,hz,by omega,?_⟩
  rw[h,oN LL k x hx,uY,hm,BS LL k f x hx hf]
theorem LQ{b:aa}{LL:List (aa)}{T:Option (List (aa))}{k:Nat}{z:Int}{out:List (aa)}(h:CS b LL T k z out)(hz:z<0)(x:aa)(hx:LL[k]?=some x)(hm:ky b x=some false):CS b LL T (k+1) ((k:Int)+1) out:=by
 rcases h with⟨_,h⟩|⟨f,hz',_⟩
 ·refine .inr ⟨k+1,by omega,GL _,?_⟩
  rw[h,oN LL k x hx,uY,hm,show(LL.take (k+1)).drop (k+1)=[]from ZW (by rw[ZV];omega)]
  simp
 ·omega
theorem MI{b:aa}{LL:List (aa)}{T:Option (List (aa))}{k f:Nat}{out:List (aa)}(h:CS b LL T k f out)(x:aa)(hx:LL[k]?=some x)(hm:ky b x=some false):CS b LL T (k+1) ((k:Int)+1) (out++[fK ((LL.take k).drop f)]):=by
 rcases h with⟨h',_⟩|⟨f',hz,_,h⟩
 ·omega
 ·have:f'=f:=by omega
  subst this
  refine .inr ⟨k+1,by omega,GL _,?_⟩
  rw[h,oN LL k x hx,uY,hm,show(LL.take (k+1)).drop (k+1)=[]from ZW (by rw[ZV];omega),Option.map_map]
  congr 1
  funext o
  simp
theorem VL{b:aa}{LL:List (aa)}{T:Option (List (aa))}{k:Nat}{z:Int}{out:List (aa)}(h:CS b LL T k z out)(hz:z<0)(x:aa)(hx:LL[k]?=some x)(hm:ky b x=some true):T=some out:=by
 rcases h with⟨_,h⟩|⟨f,hz',_⟩
 ·rw[h,oN LL k x hx,uY,hm];simp
 ·omega
theorem UJ{b:aa}{LL:List (aa)}{T:Option (List (aa))}{k f:Nat}{out:List (aa)}(h:CS b LL T k f out)(x:aa)(hx:LL[k]?=some x)(hm:ky b x=some true):T=some (out++[fK ((LL.take k).drop f)]):=by
 rcases h with⟨h',_⟩|⟨f',hz,_,h⟩
 ·omega
 ·have:f'=f:=by omega
  subst this
  rw[h,oN LL k x hx,uY,hm];simp
theorem VP{b:aa}{LL:List (aa)}{T:Option (List (aa))}{k:Nat}{z:Int}{out:List (aa)}(h:CS b LL T k z out)(hk:LL.length<=k):T=none:=by
 rcases h with⟨_,h⟩|⟨f,_,_,h⟩<;>rw[h,ZW hk]<;>rfl
theorem TU(M:Nat):∀xs:List (aa),(∀x∈xs,x.length<=M)->(fK xs).length<=xs.length*(M+2):=by
 intro xs h
 by_cases hc:xs=[]
 ·subst hc;simp[fK]
 ·have h1:=Az xs hc
  have h2:wt xs<=xs.length*(M+2):=by
   clear h1 hc
   induction xs with
   | nil=>simp[wt]
   | cons a xs ih=>
    rw[AJ,ZY,Nat.succ_mul]
    have:=h a (by simp)
    have:=ih fun x hx=>h x (by simp[hx])
    omega
  omega
theorem aV.mono{w:World}{B C:Nat}{v:Value}{l:List ByteArray}(h:aV w C v l)(hB:B<=C):aV w B v l:=by
 obtain⟨h1,h2⟩:=h
 refine⟨h1,?_⟩
 rcases h2 with h2|⟨g,cap,cur,a,b,c⟩
 ·exact .inl h2
 ·exact .inr ⟨g,cap,cur,a,VQ hB b,c⟩
theorem ES(A:Option Addr)(g f m c:Nat)(ss:List ByteArray)(w:World)(hA:f<m->A=some ⟨g,f,none⟩/\m - f<=c)(hc:∀k (hk:k<ss.length),w.cell? ⟨g,k,none⟩=some (.string ss[k]))(hg:g<w.heap.size)(h1:f<=m)(h2:m<=ss.length)(hl:∀x∈ss,x.size<=100000)(hn:ss.length<=100001):
  Calls prog 65 #[.slice A (m - f) c,.string ⟨#[13,10]⟩] w fun e w'=>∃t:ByteArray,e=.returned (.string t)/\t.data.toList=fK (((ss.map lst).take m).drop f)/\Below w.heap.size w w':=by
 by_cases hlt:f<m
 ·obtain⟨rfl,hcap⟩:=hA hlt
  have hlen:((ss.take m).drop f).length=m - f:=by rw[ZX,ZV];omega
  have hmap:(((ss.take m).drop f).map (·.data.toList))=((ss.map lst).take m).drop f:=by
   rw[<-List.map_take,<-List.map_drop];rfl
  have hj:=Tryz.strings_Join g f c ((ss.take m).drop f) ⟨#[13,10]⟩ w ?_ hg (by omega) (by omega) ?_
  ·rw[hlen,hmap]at hj
   refine hj.mono ?_
   rintro e w' ⟨rfl,hb⟩
   exact⟨_,rfl,(yM _).symm,hb⟩
  ·intro j x hj
   rw[List.getElem?_drop,List.getElem?_take]at hj
   split at hj
   ·obtain⟨hk,e⟩:=ZZ.1 hj
    rw[hc _ hk,e]
   ·cases hj
  ·have:=TU 100000 (((ss.map lst).take m).drop f) (by
    intro x hx
    obtain⟨y,hy,rfl⟩:=List.mem_map.1 (List.mem_of_mem_take (List.mem_of_mem_drop hx))
    have:=hl y hy
    rw[lst,ae];exact this)
   rw[ZX,ZV,Z0]at this
   rw[hmap,<-show fK (((ss.map lst).take m).drop f)=Lib.join (((ss.map lst).take m).drop f) [13,10]from yM _]
   have h3:(min m ss.length - f)*(100000+2)<=100001*100002:=Nat.mul_le_mul (by omega) (by omega)
   omega
 ·have e0:m - f=0:=by omega
  rw[e0]
  refine(Tryz.strings_Join_none A c ⟨#[13,10]⟩ w).mono ?_
  rintro e w' ⟨rfl,rfl⟩
  refine⟨_,rfl,?_,Below.refl _ _⟩
  rw[ZW (by rw[ZV];omega)]
  rfl
def XY(T:Option (List (aa)))(B:Nat)(e:Ending)(w':World):Prop:=
 match T with
 | none=>e=.returned (.tuple #[.slice none 0 0,.bool false])
 | some xs=>∃v ss,e=.returned (.tuple #[v,.bool true])/\aV w' B v ss/\ss.map lst=xs/\ss.length<=100001
theorem UB(s b:ByteArray)(w:World)(hs:s.size<=100000)(hbs:b.size<=100000)(hm:Max w):
  Calls prog 258 #[.string s,.string b] w fun e w'=>XY (dV b.data.toList s.data.toList) w.heap.size e w'/\Below w.heap.size w w':=by
 obtain⟨T,HT⟩:∃T,Box (T=dV b.data.toList s.data.toList):=⟨_,⟨rfl⟩⟩
 rw[<-HT.o]
 have HMx:=Box.m hm
 clear hm
 go_enter func258,ntmps258
 go_wp2_with fail
 refine(Qg s _ hs HMx.o).mono ?_
 rintro e w1 ⟨n,L,rfl,hL,hn,hc,hx,hsp,hlt1,hb1⟩
 have HC:=Box.m hc
 have HX:=Box.m hx
 have HN:=Box.m hL
 have hLn:L.length<=n:=Xu hL
 have hLn':n<=L.length:=Xu hL.symm
 have H0:Box (CS b.data.toList (L.map lst) T 0 (-1) []):=⟨.inl ⟨rfl,by rw[HT.o,dV,<-hsp];simp⟩⟩
 clear hc hx hL hsp HT HMx
 go_wp2
 go_loopw [7,8,17] (fun v p i wr=>∃(k:Nat) (z:Int) (ss:List ByteArray),k<=n/\i=.int .i64 k/\p=.int .i64 z/\-1<=z/\z<=k/\ss.length<=k/\aV wr w1.heap.size v ss/\Below w1.heap.size w1 wr/\Box (CS b.data.toList (L.map lst) T k z (ss.map lst))) (fun _ _ i _=>n - (intOf i).toNat)
 case atStart=>exact⟨0,-1,[],Nat.zero_le _,rfl,rfl,by omega,by omega,GL _,aV.nil _ _,Below.refl _ _,H0⟩
 case round=>
  obtain⟨k,z,ss,hk,rfl,rfl,hz1,hz2,hss,hown,hb,HI⟩:=hrel
  have hsz:=hb.size
  by_cases hlt:k<n
  ·have hkL:k<L.length:=by omega
   obtain⟨x,HXk⟩:∃x,Box (L[k]?=some x):=⟨_,⟨Z4 hkL⟩⟩
   have hcell:wr.cell? ⟨w.heap.size,k,none⟩=some (.string x):=by
    rw[hb.cell (p:=⟨w.heap.size,k,none⟩) hlt1,HC.o k hkL]
    have:=HXk.o
    rw[Z4 hkL]at this
    rw[Option.some.inj this]
   have HXl:Box ((L.map lst)[k]?=some x.data.toList):=⟨by rw[List.getElem?_map,HXk.o];rfl⟩
   have hxs:x.size<=100000:=by
    have:=HX.o x (List.mem_of_getElem? HXk.o)
    omega
   clear HXk hkL
   go_wp2_with fail
   refine(Rt x b _ hxs hbs).mono ?_
   rintro e w2 ⟨⟨q1,q2,rfl,hq⟩,hb2⟩
   have hsz2:=hb2.size
   have hb12:=hb.trans (hb2.mono hsz)
   rcases hq with⟨hm,rfl,rfl⟩|⟨hm,rfl,rfl⟩|⟨hm,rfl,rfl⟩
   ·have HI':=Box.m (Vp HI.o _ HXl.o hm)
    clear HI HXl hm
    go_wp2
    go_roundw
    case rel=>exact⟨k+1,z,ss,by omega,by go_num,rfl,hz1,by omega,by omega,hown.below hb2 af,hb12,HI'⟩
    case measure=>simp[intOf];omega
   ·by_cases hz:z<0
    ·have HI':=Box.m (LQ HI.o hz _ HXl.o hm)
     clear HI HXl hm
     go_wp2
     go_roundw
     case rel=>exact⟨k+1,(k:Int)+1,ss,by omega,by go_num,by go_num,by omega,by omega,by omega,hown.below hb2 af,hb12,HI'⟩
     case measure=>simp[intOf];omega
    ·obtain⟨f,rfl⟩:∃f:Nat,z=(f:Int):=⟨z.toNat,by omega⟩
     have HI':=Box.m (MI HI.o _ HXl.o hm)
     clear HI HXl hm
     go_wp2_with fail
     refine(ES _ w.heap.size f k (n - f) L _ (fun _=>⟨rfl,by omega⟩) (fun j hj=>by rw[hb12.cell (p:=⟨w.heap.size,j,none⟩) hlt1];exact HC.o j hj) (by omega) (by omega) (by omega) (fun y hy=>VQ (HX.o y hy) hs) (by omega)).mono ?_
     rintro e w3 ⟨t,rfl,ht,hb3⟩
     have hb13:=hb12.trans (hb3.mono (by omega))
     have hown3:=(hown.below hb2 af).below hb3 af
     have hsz3:=hb13.size
     have HJ:Box ((ss++[t]).map lst=ss.map lst++[fK (((L.map lst).take k).drop f)]):=⟨by rw[Z5,<-ht];rfl⟩
     rw[<-HJ.o]at HI'
     clear ht HJ HC HX
     go_wp2_with (at_builtin;refine oK _ w1 rfl (.tmp 36) (.tmp 42) rfl w1.heap.size _ _ rfl hown3 t rfl (by omega) hsz3 hb13 ?_;intro v' w4 hown4 hb4)
     go_roundw
     case rel=>exact⟨k+1,(k:Int)+1,ss++[t],by omega,by go_num,by go_num,by omega,by omega,by simp;omega,hown4,hb4,HI'⟩
     case measure=>simp[intOf];omega
   ·by_cases hz:z<0
    ·have HI':=Box.m (VL HI.o hz _ HXl.o hm)
     clear HI HXl hm HC HX
     go_wp2
     go_ret2
     refine⟨?_,hb1.trans (hb12.mono hb1.size)⟩
     rw[HI'.o]
     exact⟨_,ss,rfl,(hown.below hb2 af).mono hb1.size,rfl,by omega⟩
    ·obtain⟨f,rfl⟩:∃f:Nat,z=(f:Int):=⟨z.toNat,by omega⟩
     have HI':=Box.m (UJ HI.o _ HXl.o hm)
     clear HI HXl hm
     go_wp2_with fail
     refine(ES _ w.heap.size f k (n - f) L _ (fun _=>⟨rfl,by omega⟩) (fun j hj=>by rw[hb12.cell (p:=⟨w.heap.size,j,none⟩) hlt1];exact HC.o j hj) (by omega) (by omega) (by omega) (fun y hy=>VQ (HX.o y hy) hs) (by omega)).mono ?_
     rintro e w3 ⟨t,rfl,ht,hb3⟩
     have hb13:=hb12.trans (hb3.mono (by omega))
     have hown3:=(hown.below hb2 af).below hb3 af
     have hsz3:=hb13.size
     have HJ:Box ((ss++[t]).map lst=ss.map lst++[fK (((L.map lst).take k).drop f)]):=⟨by rw[Z5,<-ht];rfl⟩
     rw[<-HJ.o]at HI'
     clear ht HJ HC HX
     go_wp2_with (at_builtin;refine oK _ w1 rfl (.tmp 36) (.tmp 42) rfl w1.heap.size _ _ rfl hown3 t rfl (by omega) hsz3 hb13 ?_;intro v' w4 hown4 hb4)
     go_ret2
     refine⟨?_,hb1.trans (hb4.mono hb1.size)⟩
     rw[HI'.o]
     exact⟨_,_,rfl,hown4.mono hb1.size,rfl,by simp;omega⟩
  ·have HE:=Box.m (VP HI.o (by rw[Z0];omega))
   clear HI HC HX
   go_wp2
   go_ret2
   refine⟨?_,hb1.trans (hb.mono hb1.size)⟩
   rw[HE.o];rfl
end Go.Proofs.YtkldkhdigkpniaaGreatDoor
