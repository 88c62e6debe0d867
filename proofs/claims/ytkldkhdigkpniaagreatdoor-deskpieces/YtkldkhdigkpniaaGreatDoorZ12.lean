import Derived.Test.YtkldkhdigkpniaaGreatDoorZ11
import Derived.Lib.SplitLaws
open Bool renaming or_eq_true → GL
open List renaming mem_append → VQ, mem_cons → Ws, not_mem_nil → Xu, getD_eq_getElem?_getD → ZV, foldl_append → ZW, take_of_length_le → ZX, foldl_cons → ZY, foldl_nil → ZZ, length_drop → Z0, length_append → Z4, nil_append → Z5, append_assoc → Z6, getLast?_append → Z7, getElem?_eq_getElem → Z8, take_length → Z9, take_append_drop → aaa, take_append → aab, isSuffixOf_iff_suffix → aac
open Nat renaming mod_lt → aad
open Int renaming toNat_natCast → aae
namespace Go.Proofs.YtkldkhdigkpniaaGreatDoor.Tx
open Go.RowKit Go.Proofs.Sx Go.Proofs.Tryz
theorem NP(n:Nat)(h:n<64):bY (iN n)=(n:Int):=by
 have:∀n:Fin 64,bY (iN n.val)=(n.val:Int):=by decide +kernel
 exact this ⟨n,h⟩
def b64(c:UInt8):Bool:=ry.contains c||c==61
theorem uz(n:Nat)(h:n<64):b64 (iN n)=true/\(iN n==61)=false:=by
 have:∀n:Fin 64,b64 (iN n.val)=true/\(iN n.val==61)=false:=by decide +kernel
 exact this ⟨n,h⟩
theorem TR(c:UInt8)(h:b64 c=true):pF c=false/\c≠13/\32<=c.toNat/\c.toNat<=126/\c≠32/\c≠9:=by
 have key:∀c∈ry++[61],pF c=false/\c≠13/\32<=c.toNat/\c.toNat<=126/\c≠32/\c≠9:=by decide
 apply key
 unfold b64 at h
 simp only[GL,List.contains_iff_mem,beq_iff_eq]at h
 rcases h with h|h
 ·exact List.mem_append_left _ h
 ·subst h;exact List.mem_append_right _ (by simp)
theorem QG(b:aa):∀c∈gJ b,b64 c=true:=by
 have h61:b64 61=true:=by decide
 intro c hc
 simp only[gJ,JR,Ws,Xu,or_false]at hc
 rcases hc with rfl|rfl|rfl|rfl
 ·exact(uz _ (aad _ (by omega))).1
 ·exact(uz _ (aad _ (by omega))).1
 ·split
  ·exact(uz _ (aad _ (by omega))).1
  ·exact h61
 ·split
  ·exact(uz _ (aad _ (by omega))).1
  ·exact h61
theorem K8(b:aa)(k:Nat):∀c∈packTo b k,b64 c=true:=by
 induction k with
 | zero=>intro c hc;cases hc
 | succ k ih=>
  intro c hc
  rw[packTo,VQ]at hc
  rcases hc with hc|hc
  ·exact ih c hc
  ·exact QG _ c hc
theorem vK(a b:aa):dE (a++b)=dE a++dE b:=by unfold dE;rw[List.filter_append]
theorem DZ(l:aa)(hl:∀c∈l,b64 c=true)(k:Nat)(hk:k<=l.length):dE (inLinesTo l k)=l.take k:=by
 induction k with
 | zero=>simp[inLinesTo,dE]
 | succ k ih=>
  have hk':k<l.length:=by omega
  have hg:l.getD k 0=l[k]:=by rw[ZV,Z8 hk'];rfl
  have hs:pF l[k]=false:=(TR _ (hl _ (List.getElem_mem hk'))).1
  have h2:dE (if (k+1) % 76=0\/k+1=l.length then [13,10] else [])=[]:=by split<;>rfl
  rw[inLinesTo,vK,vK,ih (by omega),h2,hg,List.append_nil,jg l k hk']
  congr 1
  simp[dE,hs]
theorem NT(b:aa):dE (packS b)=packTo b ((b.length+2) / 3):=by
 unfold packS
 rw[DZ _ (K8 _ _) _ af,Z9]
theorem O6(o:aa)(N C n:Nat)(hn:n<64):joinStep (o,N,C) (iN n) =
  if 8<=C+6 then some (o++[UInt8.ofNat ((N*64+n) / 2 ^ (C+6 - 8))],(N*64+n) % 2 ^ (C+6 - 8),C+6 - 8) else some (o,N*64+n,C+6):=by
 unfold joinStep
 have h:=NP n hn
 rw[h,if_neg (by omega)]
 simp only[aae]
theorem Ny(o:aa)(N n:Nat)(hn:n<64):joinStep (o,N,0) (iN n)=some (o,N*64+n,6):=by rw[O6 o N 0 n hn];rfl
theorem Li(o:aa)(N n:Nat)(hn:n<64):joinStep (o,N,6) (iN n)=some (o++[UInt8.ofNat ((N*64+n) / 16)],(N*64+n) % 16,4):=by rw[O6 o N 6 n hn];rfl
theorem TE(o:aa)(N n:Nat)(hn:n<64):joinStep (o,N,4) (iN n)=some (o++[UInt8.ofNat ((N*64+n) / 4)],(N*64+n) % 4,2):=by rw[O6 o N 4 n hn];rfl
theorem YW(o:aa)(N n:Nat)(hn:n<64):joinStep (o,N,2) (iN n)=some (o++[UInt8.ofNat ((N*64+n) / 1)],(N*64+n) % 1,0):=by rw[O6 o N 2 n hn];rfl
def jf(q:Option (aa×Nat×Nat))(c:UInt8):Option (aa×Nat×Nat):=q.bind fun q=>joinStep q c
theorem mo(q:aa×Nat×Nat)(c:UInt8):jf (some q) c=joinStep q c:=rfl
theorem nI(n:Nat)(x:UInt8)(h:n=x.toNat):UInt8.ofNat n=x:=by subst h;simp
theorem Qf(o:aa)(x y z:UInt8):(gJ [x,y,z]).foldl jf (some (o,0,0))=some (o++[x,y,z],0,0):=by
 have hx:=x.toNat_lt
 have hy:=y.toNat_lt
 have hz:=z.toNat_lt
 obtain⟨N,hN⟩:∃N,N=(x.toNat*256+y.toNat)*256+z.toNat:=⟨_,rfl⟩
 have e:gJ [x,y,z]=[iN (N / 262144 % 64),iN (N / 4096 % 64),iN (N / 64 % 64),iN (N % 64)]:=by rw[hN];rfl
 rw[e]
 simp only[ZY,ZZ,mo]
 rw[Ny _ _ _ (aad _ (by omega)),mo,Li _ _ _ (aad _ (by omega)),mo,TE _ _ _ (aad _ (by omega)),mo,YW _ _ _ (aad _ (by omega))]
 rw[nI _ x (by omega),nI _ y (by omega),nI _ z (by omega)]
 simp
 omega
theorem Mg(o:aa)(x y:UInt8):((gJ [x,y]).take 3).foldl jf (some (o,0,0))=some (o++[x,y],0,2):=by
 have hx:=x.toNat_lt
 have hy:=y.toNat_lt
 obtain⟨N,hN⟩:∃N,N=cz [x,y]:=⟨_,rfl⟩
 have hM:cz [x,y]=(x.toNat*256+y.toNat)*256:=by simp[cz]
 have e:(gJ [x,y]).take 3=[iN (N / 262144 % 64),iN (N / 4096 % 64),iN (N / 64 % 64)]:=by rw[hN];rfl
 rw[e]
 simp only[ZY,ZZ,mo]
 rw[Ny _ _ _ (aad _ (by omega)),mo,Li _ _ _ (aad _ (by omega)),mo,TE _ _ _ (aad _ (by omega))]
 rw[nI _ x (by omega),nI _ y (by omega)]
 simp
 omega
theorem UX(o:aa)(x:UInt8):((gJ [x]).take 2).foldl jf (some (o,0,0))=some (o++[x],0,4):=by
 have hx:=x.toNat_lt
 obtain⟨N,hN⟩:∃N,N=cz [x]:=⟨_,rfl⟩
 have hM:cz [x]=x.toNat*256*256:=by simp[cz]
 have e:(gJ [x]).take 2=[iN (N / 262144 % 64),iN (N / 4096 % 64)]:=by rw[hN];rfl
 rw[e]
 simp only[ZY,ZZ,mo]
 rw[Ny _ _ _ (aad _ (by omega)),mo,Li _ _ _ (aad _ (by omega))]
 rw[nI _ x (by omega)]
 simp
 omega
theorem kW(l:aa):joinAll l=l.foldl jf (some ([],0,0)):=rfl
theorem Dl(b:aa)(k:Nat)(h:3*k+3<=b.length):∃x y z,(b.drop (3*k)).take 3=[x,y,z]/\b.take (3*(k+1))=b.take (3*k)++[x,y,z]:=by
 have hl:((b.drop (3*k)).take 3).length=3:=by rw[List.length_take,Z0];omega
 match hm:(b.drop (3*k)).take 3,hl with
 | [x,y,z],_ =>
  refine⟨x,y,z,rfl,?_⟩
  rw[show 3*(k+1)=3*k+3 from by omega,List.take_add,hm]
theorem yI(b:aa)(k:Nat)(h:3*k<=b.length):joinAll (packTo b k)=some (b.take (3*k),0,0):=by
 induction k with
 | zero=>rfl
 | succ k ih=>
  obtain⟨x,y,z,h1,h2⟩:=Dl b k (by omega)
  rw[kW,packTo,ZW,<-kW,ih (by omega),h1,Qf,h2]
theorem oV(a l:aa)(i:Nat):(a++l).getD (a.length+i) 0=l.getD i 0:=by
 rw[ZV,ZV,List.getElem?_append_right (by omega),Nat.add_sub_cancel_left]
theorem qK(a l:aa)(h:2<=l.length):jo (a++l)=jo l:=by
 unfold jo
 rw[Z4,show a.length+l.length - 1=a.length+(l.length - 1)from by omega,show a.length+l.length - 2=a.length+(l.length - 2)from by omega,oV,oV]
 simp only[show(1<=a.length+l.length)=True from by simp;omega,show(2<=a.length+l.length)=True from by simp;omega,show(1<=l.length)=True from by simp;omega,show(2<=l.length)=True from by simp;omega]
theorem vM(c0 c1 c2 c3:UInt8):jo [c0,c1,c2,c3]=if c3=61 then if c2=61 then 2 else 1 else 0:=by
 unfold jo
 simp
theorem Om(n:Nat)(h:n<64):iN n≠61:=by
 have:=(uz n h).2
 simpa using this
theorem GN(s b:aa)(h:dE s=packTo b ((b.length+2) / 3)):unpackS s=some b:=by
 unfold unpackS
 rw[h]
 have hl:=packTo_length b ((b.length+2) / 3)
 rw[hl,if_pos (by omega)]
 obtain⟨k,hk⟩:∃k,k=b.length / 3:=⟨_,rfl⟩
 have hr:b.length % 3=0\/b.length % 3=1\/b.length % 3=2:=by omega
 rcases hr with hr|hr|hr
 ·have hm:(b.length+2) / 3=k:=by omega
  rw[hm]
  have hf:jo (packTo b k)=0:=by
   cases k with
   | zero=>rfl
   | succ k=>
    obtain⟨x,y,z,h1,_⟩:=Dl b k (by omega)
    rw[packTo,qK _ _ (by rw[fourL_length];omega),h1]
    rw[show gJ [x,y,z]=[iN _,iN _,iN _,iN _]from rfl,vM,if_neg (Om _ (aad _ (by omega)))]
  rw[hf,ZX (by rw[packTo_length];omega)]
  unfold joinedS
  rw[yI b k (by omega),ZX (by omega)]
  rfl
 ·have hm:(b.length+2) / 3=k+1:=by omega
  have hd:∃x,(b.drop (3*k)).take 3=[x]/\b=b.take (3*k)++[x]:=by
   have hlen:(b.drop (3*k)).length=1:=by rw[Z0];omega
   match hx:b.drop (3*k),hlen with
   | [x],_=>exact⟨x,rfl,by rw[<-hx,aaa]⟩
  obtain⟨x,h1,h2⟩:=hd
  rw[hm,packTo,qK _ _ (by rw[fourL_length];omega),h1]
  rw[show jo (gJ [x])=2 from by rw[show gJ [x]=[iN _,iN _,61,61]from rfl,vM];rfl]
  rw[aab,ZX (by rw[packTo_length];omega),packTo_length,show 4*(k+1) - 2 - 4*k=2 from by omega]
  unfold joinedS
  rw[kW,ZW,<-kW,yI b k (by omega),UX]
  show some (b.take (3*k)++[x])=some b
  rw[<-h2]
 ·have hm:(b.length+2) / 3=k+1:=by omega
  have hd:∃x y,(b.drop (3*k)).take 3=[x,y]/\b=b.take (3*k)++[x,y]:=by
   have hlen:(b.drop (3*k)).length=2:=by rw[Z0];omega
   match hx:b.drop (3*k),hlen with
   | [x,y],_=>exact⟨x,y,rfl,by rw[<-hx,aaa]⟩
  obtain⟨x,y,h1,h2⟩:=hd
  rw[hm,packTo,qK _ _ (by rw[fourL_length];omega),h1]
  rw[show jo (gJ [x,y])=1 from by rw[show gJ [x,y]=[iN _,iN _,iN _,61]from rfl,vM,if_pos rfl,if_neg (Om _ (aad _ (by omega)))]]
  rw[aab,ZX (by rw[packTo_length];omega),packTo_length,show 4*(k+1) - 1 - 4*k=3 from by omega]
  unfold joinedS
  rw[kW,ZW,<-kW,yI b k (by omega),Mg]
  show some (b.take (3*k)++[x,y])=some b
  rw[<-h2]
theorem unpack_pack(b:aa):unpackS (packS b)=some b:=GN _ _ (NT b)
def fG(Ls:List (aa))(cur:aa):aa:=Ls.flatMap (fun l=>l++[13,10])++cur
theorem CP(l:aa)(Ls:List (aa))(cur:aa):fG (l::Ls) cur=l++[13,10]++fG Ls cur:=by simp[fG]
theorem zg(Ls:List (aa))(cur x:aa):fG Ls cur++x=fG Ls (cur++x):=by simp[fG]
theorem CZ(Ls:List (aa))(cur x y:aa):fG Ls cur++(x++[13,10])++y=fG (Ls++[cur++x]) y:=by simp[fG]
theorem Dv(x r:aa)(h:∀c∈x,c≠13):Lib.index (x++[13,10]++r) [13,10]=(x.length:Int):=by
 induction x with
 | nil=>rw[Z5];show Lib.index (13::10::r) [13,10]=_;unfold Lib.index;simp
 | cons b x ih=>
  have hb:b≠13:=h b (by simp)
  have ih':=ih (fun c hc=>h c (by simp[hc]))
  have hp:([13,10]:aa).isPrefixOf (b::(x++[13,10]++r))=false:=by simp[List.isPrefixOf,Ne.symm hb]
  show Lib.index (b::(x++[13,10]++r)) [13,10]=_
  rw[Lib.index,hp,ih',if_neg (by simp),if_neg (by simp)]
  simp
theorem zR(x:aa)(h:∀c∈x,c≠13):Lib.index x [13,10]=-1:=by
 induction x with
 | nil=>rfl
 | cons b x ih=>
  have hb:b≠13:=h b (by simp)
  have ih':=ih (fun c hc=>h c (by simp[hc]))
  have hp:([13,10]:aa).isPrefixOf (b::x)=false:=by simp[List.isPrefixOf,Ne.symm hb]
  rw[Lib.index,hp,ih']
  rfl
theorem y8(l r:aa):(l++[13,10]++r).drop (l.length+([13,10]:aa).length)=r:=by
 have:l.length+([13,10]:aa).length=(l++[13,10]).length:=by simp
 rw[this,List.drop_left]
theorem oq(Ls:List (aa))(cur:aa)(h:∀l∈Ls,∀c∈l,c≠13)(hc:∀c∈cur,c≠13):
  Lib.count (fG Ls cur) [13,10]=Ls.length/\Lib.splitK [13,10] 0 Ls.length (fG Ls cur)=Ls++[cur]:=by
 induction Ls with
 | nil=>
  refine⟨?_,rfl⟩
  exact Lib.count_miss (zR cur hc)
 | cons l Ls ih=>
  have hi:=Dv l (fG Ls cur) (h l (by simp))
  obtain⟨i1,i2⟩:=ih (fun l hl=>h l (by simp[hl]))
  rw[CP]
  constructor
  ·rw[Lib.count_hit (by simp) hi]
   rw[y8,i1]
   simp;omega
  ·rw[List.length_cons,Lib.splitK,hi]
   rw[if_neg (by simp)]
   rw[aae,y8,i2]
   simp
def okL(p:aa):Prop:=p.length<=76/\Lib.hasSuffix p [32]=false/\Lib.hasSuffix p [9]=false/\∀c∈p,sP c
theorem jR(l:aa)(c d:UInt8)(h:c≠d):Lib.hasSuffix (l++[c]) [d]=false:=by
 unfold Lib.hasSuffix
 rw[Bool.eq_false_iff]
 intro hs
 rw[aac]at hs
 obtain⟨t,ht⟩:=hs
 have:=List.append_inj_right' ht rfl
 simp at this
 exact h this.symm
abbrev fP:=Option (UInt8 ⊕ UInt8)
abbrev fP.soft:fP:=none
abbrev fP.lit(c:UInt8):fP:=some (.inl c)
abbrev fP.hex(c:UInt8):fP:=some (.inr c)
def fP.bytes:fP->aa
 | none=>[61,13,10]
 | some (.inl c)=>[c]
 | some (.inr c)=>[61,kU (c.toNat / 16),kU (c.toNat % 16)]
def fP.val:fP->aa
 | none=>[]
 | some (.inl c)=>[c]
 | some (.inr c)=>[c]
def fP.ok:fP->Bool
 | some (.inl c)=>aZ c||dN c
 | _=>true
def fP.isSoft:fP->Bool
 | none=>true
 | _=>false
def fP.ends:fP->Bool
 | some (.inl c)=>aZ c
 | _=>true
def fo(I:List fP):aa:=I.flatMap fP.bytes
def oh(I:List fP):aa:=I.flatMap fP.val
theorem gW(a b:List fP):fo (a++b)=fo a++fo b:=by simp[fo]
theorem ou(a b:List fP):oh (a++b)=oh a++oh b:=by simp[oh]
theorem FR(n:Nat)(h:n<16):iD (kU n)=(n:Int):=by
 have:∀n:Fin 16,iD (kU n.val)=(n.val:Int):=by decide +kernel
 exact this ⟨n,h⟩
theorem yu(n:Nat)(h:n<16):aZ (kU n)=true/\kU n≠61/\kU n≠13/\32<=(kU n).toNat/\(kU n).toNat<=126/\kU n≠32/\kU n≠9:=by
 have:∀n:Fin 16,aZ (kU n.val)=true/\kU n.val≠61/\kU n.val≠13/\32<=(kU n.val).toNat/\(kU n.val).toNat<=126/\kU n.val≠32/\kU n.val≠9:=by decide +kernel
 exact this ⟨n,h⟩
theorem uB(c:UInt8)(h:aZ c=true):c≠61/\c≠13/\32<=c.toNat/\c.toNat<=126/\c≠32/\c≠9:=by
 unfold aZ at h
 simp only[Bool.and_eq_true,decide_eq_true_eq,bne_iff_ne]at h
 obtain⟨⟨h1,h2⟩,h3⟩:=h
 have a1:=UInt8.le_iff_toNat_le.1 h1
 have a2:=UInt8.le_iff_toNat_le.1 h2
 simp at a1 a2
 refine⟨h3,?_,by omega,by omega,?_,?_⟩<;>(intro e;subst e;simp at a1)
theorem Bf(c:UInt8)(h:dN c=true):c≠61/\c≠13/\sP c:=by
 unfold dN at h
 simp only[GL,beq_iff_eq]at h
 rcases h with rfl|rfl
 ·exact⟨by decide,by decide,.inl (by decide)⟩
 ·exact⟨by decide,by decide,.inr rfl⟩
def uf(q:Option (aa×Nat×Nat))(c:UInt8):Option (aa×Nat×Nat):=q.bind fun q=>jy q c
theorem AC(q:aa×Nat×Nat)(c:UInt8):uf (some q) c=jy q c:=rfl
theorem UE(l:aa):kL l=l.foldl uf (some ([],0,0)):=rfl
theorem WE(x:fP)(hx:x.ok=true)(hs:x.isSoft=false)(o:aa)(V:Nat):∃V',x.bytes.foldl uf (some (o,V,0))=some (o++x.val,V',0):=by
 rcases x with _|(c|c)
 ·cases hs
 ·skip
  refine⟨V,?_⟩
  have hx':(aZ c||dN c)=true:=hx
  have h61:c≠61:=by
   simp only[GL]at hx'
   rcases hx' with h|h
   ·exact(uB c h).1
   ·exact(Bf c h).1
  show uf (some (o,V,0)) c=_
  rw[AC,lT,if_neg h61,hx']
  rfl
 ·skip
  have hc:=c.toNat_lt
  refine⟨c.toNat / 16*16+c.toNat % 16,?_⟩
  show uf (uf (uf (some (o,V,0)) 61) (kU (c.toNat / 16))) (kU (c.toNat % 16))=_
  rw[AC,lT,if_pos rfl,AC,vW,FR _ (by omega),if_neg (by omega),AC,wY,FR _ (by omega),if_neg (by omega)]
  simp only[aae]
  rw[nI _ c (by omega)]
  rfl
theorem Ve(J:List fP)(hJ:∀x∈J,x.ok=true/\x.isSoft=false)(o:aa)(V:Nat):∃V',(fo J).foldl uf (some (o,V,0))=some (o++oh J,V',0):=by
 induction J generalizing o V with
 | nil=>exact⟨V,by simp[fo,oh]⟩
 | cons x J ih=>
  obtain⟨V1,h1⟩:=WE x (hJ x (by simp)).1 (hJ x (by simp)).2 o V
  obtain⟨V2,h2⟩:=ih (fun y hy=>hJ y (by simp[hy])) (o++x.val) V1
  refine⟨V2,?_⟩
  show(x.bytes++fo J).foldl uf _=_
  rw[ZW,h1,h2,Z6]
  rfl
theorem tN(J:List fP)(hJ:∀x∈J,x.ok=true/\x.isSoft=false):bT (fo J)=some (oh J):=by
 obtain⟨V,h⟩:=Ve J hJ [] 0
 unfold bT
 rw[UE,h]
 simp
theorem FV(x:fP)(hx:x.ok=true)(hs:x.isSoft=false):∀c∈x.bytes,c≠13:=by
 intro c hc
 rcases x with _|(d|d)
 ·cases hs
 ·skip
  have hx':(aZ d||dN d)=true:=hx
  simp only[fP.bytes,Ws,Xu,or_false]at hc
  subst hc
  simp only[GL]at hx'
  rcases hx' with h|h
  ·exact(uB c h).2.1
  ·exact(Bf c h).2.1
 ·skip
  have hd:=d.toNat_lt
  simp only[fP.bytes,Ws,Xu,or_false]at hc
  rcases hc with rfl|rfl|rfl
  ·decide
  ·exact(yu _ (by omega)).2.2.1
  ·exact(yu _ (by omega)).2.2.1
theorem Fs(J:List fP)(hJ:∀x∈J,x.ok=true/\x.isSoft=false):∀c∈fo J,c≠13:=by
 intro c hc
 simp only[fo,List.mem_flatMap]at hc
 obtain⟨x,hx,hc⟩:=hc
 exact FV x (hJ x hx).1 (hJ x hx).2 c hc
theorem Wl(x r:aa)(h:∀c∈x,c≠13):Lib.cut (x++[13,10]++r) [13,10]=(x,r,true):=by
 unfold Lib.cut
 rw[Dv x r h,if_pos (by omega),aae,y8]
 simp
theorem SE(x:aa)(h:∀c∈x,c≠13):Lib.cut x [13,10]=(x,[],false):=by
 unfold Lib.cut
 rw[zR x h]
 rfl
theorem EJ(l:aa)(c:UInt8)(h1:c≠32)(h2:c≠9):Lib.trimRightS (l++[c]) [32,9]=l++[c]:=by
 unfold Lib.trimRightS
 rw[List.reverse_append]
 simp only[List.reverse_cons,List.reverse_nil,Z5,List.singleton_append]
 rw[List.dropWhile_cons_of_neg (by simp[h1,h2])]
 simp
theorem Dx(l:aa)(c:UInt8):Lib.hasSuffix (l++[c]) [c]=true:=by
 unfold Lib.hasSuffix
 rw[aac]
 exact List.suffix_append _ _
theorem Fg(l:aa):lineOf (l++[61])=l/\goesOn (l++[61])=true:=by
 unfold lineOf goesOn
 rw[EJ l 61 (by decide) (by decide)]
 refine⟨?_,Dx l 61⟩
 unfold Lib.trimSuffix
 rw[Dx,if_pos rfl]
 simp
theorem ER(x:fP)(hx:x.ends=true)(hs:x.isSoft=false):∃l c,x.bytes=l++[c]/\c≠61/\c≠32/\c≠9:=by
 rcases x with _|(c|c)
 ·cases hs
 ·skip
  have:=uB c hx
  exact⟨[],c,rfl,this.1,this.2.2.2.2.1,this.2.2.2.2.2⟩
 ·skip
  have hc:=c.toNat_lt
  have:=yu (c.toNat % 16) (by omega)
  exact⟨[61,kU (c.toNat / 16)],_,rfl,this.2.1,this.2.2.2.2.2.1,this.2.2.2.2.2.2⟩
theorem J2(J:List fP)(hJ:∀x∈J,x.ok=true/\x.isSoft=false)(he:∀x,J.getLast?=some x->x.ends=true):lineOf (fo J)=fo J:=by
 rcases List.eq_nil_or_concat J with rfl|⟨K,x,rfl⟩
 ·rfl
 ·rw[List.concat_eq_append]at hJ he ⊢
  obtain⟨l,c,h1,h2,h3,h4⟩:=ER x (he x (by simp)) (hJ x (by simp)).2
  have e:fo (K++[x])=(fo K++l)++[c]:=by
   rw[gW]
   show fo K++(x.bytes++[])=_
   rw[h1]
   simp
  rw[e]
  unfold lineOf
  rw[EJ _ c h3 h4]
  unfold Lib.trimSuffix
  rw[jR _ c 61 h2]
  rfl
theorem G9(I J:List fP)(f:Nat)(out:aa)(hI:∀x∈I,x.ok=true)(hJ:∀x∈J,x.ok=true/\x.isSoft=false)
  (he:∀x,(J++I).getLast?=some x->x.ends=true) (hf:(fo J++fo I).length<f):uqLoop f (fo J++fo I) out=some (out++oh J++oh I):=by
 induction I generalizing J f out with
 | nil=>
  obtain⟨f',rfl⟩:∃f',f=f'+1:=⟨f - 1,by omega⟩
  have hc:=SE (fo J) (Fs J hJ)
  have e:fo J++fo []=fo J:=by simp[fo]
  rw[e,Co f' (fo J) out (fo J) [] (oh J) hc (by rw[J2 J hJ (by simpa using he)];exact tN J hJ)]
  simp[oh]
 | cons x I ih=>
  cases hs:x.isSoft with
  | false=>
   have:=ih (J++[x]) f out (fun y hy=>hI y (by simp[hy])) (by
    intro y hy
    rw[VQ]at hy
    rcases hy with hy|hy
    ·exact hJ y hy
    ·simp at hy;subst hy;exact⟨hI y (by simp),hs⟩) (by simpa using he) (by
    rw[gW,Z6,<-gW [x] I]
    exact hf)
   rw[gW,Z6,ou]at this
   rw[show fo (x::I)=fo [x]++fo I from gW [x] I,show oh (x::I)=oh [x]++oh I from ou [x] I,this]
   simp
  | true=>
   rcases x with _|(c|c)
   rotate_left
   ·cases hs
   ·cases hs
   ·skip
    obtain⟨f',rfl⟩:∃f',f=f'+1:=⟨f - 1,by omega⟩
    have e:fo J++fo (fP.soft::I)=(fo J++[61])++[13,10]++fo I:=by
     rw[show fo (fP.soft::I)=[61,13,10]++fo I from gW [fP.soft] I]
     simp
    have hn:∀c∈fo J++[61],c≠13:=by
     intro c hc
     rw[VQ]at hc
     rcases hc with hc|hc
     ·exact Fs J hJ c hc
     ·simp at hc;subst hc;decide
    have hc:=Wl (fo J++[61]) (fo I) hn
    rw[e,Ga f' _ out _ _ (oh J) hc (by rw[(Fg _).1];exact tN J hJ),(Fg _).2]
    have h1:=ih [] f' (out++oh J++if true=true then [] else [13,10]) (fun y hy=>hI y (by simp[hy])) (by simp) (by
     intro y hy
     cases I with
     | nil=>cases hy
     | cons z I =>
      apply he y
      rw[Z7]
      simp only[Z5]at hy
      rw[List.getLast?_cons_cons,hy]
      rfl) (by
     rw[e]at hf
     simp[fo]at hf ⊢
     omega)
    rw[show fo []++fo I=fo I from by simp[fo]]at h1
    rw[h1]
    simp[oh,fP.val]
theorem Eh(I:List fP)(hI:∀x∈I,x.ok=true)(he:∀x,I.getLast?=some x->x.ends=true):unquoteS (fo I)=some (oh I):=by
 have:=G9 I [] ((fo I).length+1) [] hI (by simp) (by simpa using he) (by simp[fo])
 unfold unquoteS
 rw[show fo []++fo I=fo I from by simp[fo]]at this
 rw[this]
 simp[oh]
def ik(c:UInt8)(last:Bool):fP:=if aZ c||(dN c&&!last) then fP.lit c else fP.hex c
theorem Gh(c:UInt8)(last:Bool):(ik c last).bytes=aK c last:=by
 unfold ik aK;split<;>rfl
theorem MX(c:UInt8)(last:Bool):(ik c last).val=[c]:=by unfold ik;split<;>rfl
theorem Pw(c:UInt8)(last:Bool):(ik c last).ok=true/\(ik c last).isSoft=false/\(ik c true).ends=true:=by
 refine⟨?_,?_,?_⟩
 ·unfold ik
  split
  ·rename_i h
   show(aZ c||dN c)=true
   cases h1:aZ c<;>simp_all
  ·rfl
 ·unfold ik;split<;>rfl
 ·unfold ik
  split
  ·rename_i h
   show aZ c=true
   simpa using h
  ·rfl
theorem Jn(x:fP)(hx:x.ok=true)(hs:x.isSoft=false):∀c∈x.bytes,sP c:=by
 intro c hc
 rcases x with _|(d|d)
 ·cases hs
 ·skip
  have hx':(aZ d||dN d)=true:=hx
  simp only[fP.bytes,Ws,Xu,or_false]at hc
  subst hc
  simp only[GL]at hx'
  rcases hx' with h|h
  ·have:=uB c h
   exact .inl ⟨this.2.2.1,this.2.2.2.1⟩
  ·exact(Bf c h).2.2
 ·skip
  have hd:=d.toNat_lt
  simp only[fP.bytes,Ws,Xu,or_false]at hc
  rcases hc with rfl|rfl|rfl
  ·exact .inl (by decide)
  ·have:=yu (d.toNat / 16) (by omega)
   exact .inl ⟨this.2.2.2.1,this.2.2.2.2.1⟩
  ·have:=yu (d.toNat % 16) (by omega)
   exact .inl ⟨this.2.2.2.1,this.2.2.2.2.1⟩
structure U3(b:aa)(k:Nat)(o:aa)(G:Nat):Prop where
 items:∃I,fo I=o/\oh I=b.take k/\(∀x∈I,x.ok=true)/\(k=b.length->∀x,I.getLast?=some x->x.ends=true)
 lines:∃Ls cur,o=fG Ls cur/\(∀l∈Ls,okL l/\∀c∈l,c≠13)/\cur.length=G/\(∀c∈cur,sP c/\c≠13)/\(G<=76/\(k<b.length->G<=75))/\(k=b.length->okL cur)
theorem Zg(cur:aa)(h:cur.length<=75)(hb:∀c∈cur,sP c):okL (cur++[61]):=by
 refine⟨by simp;omega,jR _ 61 32 (by decide),jR _ 61 9 (by decide),fun c hc=>?_⟩
 rw[VQ]at hc
 rcases hc with hc|hc
 ·exact hb c hc
 ·simp at hc;subst hc;exact .inl (by decide)
theorem Iq(cur:aa)(x:fP)(hx:x.ends=true)(hs:x.isSoft=false)(hl:(cur++x.bytes).length<=76)(hb:∀c∈cur++x.bytes,sP c):okL (cur++x.bytes):=by
 obtain⟨l,c,h1,_,h3,h4⟩:=ER x hx hs
 have e:cur++x.bytes=(cur++l)++[c]:=by rw[h1];simp
 refine⟨hl,?_,?_,hb⟩
 ·rw[e];exact jR _ c 32 h3
 ·rw[e];exact jR _ c 9 h4
theorem En(b:aa)(k:Nat)(hk:k<=b.length):U3 b k (dx b k).1 (dx b k).2:=by
 induction k with
 | zero=>
  refine⟨⟨[],rfl,by simp[oh],by simp,by simp⟩,⟨[],[],rfl,by simp,rfl,by simp,⟨by simp[dx],by simp[dx]⟩,fun _=>⟨by simp,rfl,rfl,by simp⟩⟩⟩
 | succ k ih=>
  obtain⟨⟨I,i1,i2,i3,_⟩,⟨Ls,cur,l1,l2,l3,l4,l5,_⟩⟩:=ih (by omega)
  have hk':k<b.length:=by omega
  have hg:b.getD k 0=b[k]:=by rw[ZV,Z8 hk'];rfl
  have hG:=l5.2 hk'
  rw[dx,hg]
  obtain⟨c,hc⟩:∃c,c=b[k]:=⟨_,rfl⟩
  have ht:b.take (k+1)=b.take k++[c]:=by rw[hc];exact jg b k hk'
  obtain⟨last,hlast⟩:∃last,last=decide (k+1=b.length):=⟨_,rfl⟩
  rw[<-hc,<-hlast]
  have hx:=Pw c last
  have hbytes:=Gh c last
  have hval:=MX c last
  have h3:(aK c last).length<=3:=kr c last
  have hob:∀d∈aK c last,sP d/\d≠13:=by
   rw[<-hbytes]
   exact fun d hd=>⟨Jn _ hx.1 hx.2.1 d hd,FV _ hx.1 hx.2.1 d hd⟩
  have hend:k+1=b.length->(ik c last).ends=true:=by
   intro h
   rw[hlast,decide_eq_true h]
   exact hx.2.2
  by_cases hov:(if k+1=b.length then 76 else 75)<(dx b k).2+(aK c last).length
  ·rw[if_pos hov]
   refine⟨⟨I++[fP.soft,ik c last],?_,?_,?_,?_⟩,⟨Ls++[cur++[61]],aK c last,?_,?_,rfl,hob,⟨by omega,by omega⟩,?_⟩⟩
   ·rw[gW,i1]
    show _++([61,13,10]++((ik c last).bytes++[]))=_
    rw[hbytes];simp
   ·rw[ou,i2,ht]
    show _++([]++((ik c last).val++[]))=_
    rw[hval];simp
   ·intro x hx'
    simp only[VQ,Ws,Xu,or_false]at hx'
    rcases hx' with hx'|rfl|rfl
    ·exact i3 x hx'
    ·rfl
    ·exact hx.1
   ·intro h x hx'
    rw[Z7]at hx'
    simp at hx'
    subst hx'
    exact hend h
   ·have:=CZ Ls cur [61] (aK c last)
    rw[<-this,l1]
    simp
   ·intro l hl
    simp only[VQ,Ws,Xu,or_false]at hl
    rcases hl with hl|rfl
    ·exact l2 l hl
    ·refine⟨Zg cur (by omega) (fun c hc=>(l4 c hc).1),fun d hd=>?_⟩
     rw[VQ]at hd
     rcases hd with hd|hd
     ·exact(l4 d hd).2
     ·simp at hd;subst hd;decide
   ·intro h
    have:=Iq [] (ik c last) (hend h) hx.2.1 (by rw[hbytes];simp;omega) (by rw[hbytes];simpa using fun d hd=>(hob d hd).1)
    rw[hbytes]at this
    simpa using this
  ·rw[if_neg hov]
   have hcb:∀d∈cur++aK c last,sP d/\d≠13:=by
    intro d hd
    rw[VQ]at hd
    rcases hd with hd|hd
    ·exact l4 d hd
    ·exact hob d hd
   refine⟨⟨I++[ik c last],?_,?_,?_,?_⟩,⟨Ls,cur++aK c last,?_,l2,by rw[Z4,l3],hcb,?_,?_⟩⟩
   ·rw[gW,i1]
    show _++((ik c last).bytes++[])=_
    rw[hbytes];simp
   ·rw[ou,i2,ht]
    show _++((ik c last).val++[])=_
    rw[hval];simp
   ·intro x hx'
    simp only[VQ,Ws,Xu,or_false]at hx'
    rcases hx' with hx'|rfl
    ·exact i3 x hx'
    ·exact hx.1
   ·intro h x hx'
    rw[Z7]at hx'
    simp at hx'
    subst hx'
    exact hend h
   ·show(dx b k).1++aK c last=_
    rw[l1,zg]
   ·show _+_<=76/\(_->_+_<=75)
    constructor
    ·split at hov<;>omega
    ·intro h
     rw[if_neg (by omega)]at hov
     omega
   ·intro h
    rw[if_pos h]at hov
    have:=Iq cur (ik c last) (hend h) hx.2.1 (by rw[hbytes,Z4,l3];omega) (by rw[hbytes];exact fun d hd=>(hcb d hd).1)
    rw[hbytes]at this
    exact this
theorem Iy(b:aa):∃I,fo I=quoteS b/\oh I=b/\(∀x∈I,x.ok=true)/\(∀x,I.getLast?=some x->x.ends=true):=by
 obtain⟨⟨I,h1,h2,h3,h4⟩,_⟩:=En b b.length af
 exact⟨I,h1,by rw[h2,Z9],h3,h4 rfl⟩
theorem unquote_quote(b:aa):unquoteS (quoteS b)=some b:=by
 obtain⟨I,h1,h2,h3,h4⟩:=Iy b
 rw[<-h1,Eh I h3 h4,h2]
def s1(t:aa)(n k:Nat):Nat:=if n<=k/\t.getD (k - n) 0=61 then k - n else k
def s3(t:aa)(d:UInt8)(k:Nat):Nat:=if 0<k/\t.getD (k - 1) 0=d then k - 1 else k
end Go.Proofs.YtkldkhdigkpniaaGreatDoor.Tx
