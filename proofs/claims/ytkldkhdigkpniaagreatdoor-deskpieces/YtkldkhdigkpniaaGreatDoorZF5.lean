import Derived.Test.YtkldkhdigkpniaaGreatDoorZ16
import Derived.Test.YtkldkhdigkpniaaGreatDoorZ12
import Derived.Test.YtkldkhdigkpniaaGreatDoorZ13
import Derived.Test.YtkldkhdigkpniaaGreatDoorZ10
import Derived.Lib.ItoaNum
open List renaming map_cons → GL, append_assoc → VQ, drop_left → Ws, isPrefixOf_iff_prefix → Xu, length_append → ZV, all_map → ZW, all_cons → ZX, mem_append → ZY, mem_singleton → ZZ, all_eq_true → Z0
namespace Go.Proofs.YtkldkhdigkpniaaGreatDoor
open Go.RowKit Go.Proofs.Tryz
def Ao(n:Nat):aa:=98::Lib.decDigits n
def gz(xs:List (aa))(n:Nat):Bool:=xs.any fun x=>Lib.contains x (gU (Ao n))
theorem mD(x sub:aa):Lib.contains x sub=true↔∃u v,x=u++sub++v:=by
 unfold Lib.contains
 rw[decide_eq_true_eq]
 rcases Lib.index_spec x sub with⟨h,hn⟩|⟨i,h,hi,ho,_⟩
 ·rw[h]
  constructor
  ·intro h';omega
  ·rintro⟨u,v,e⟩
   have:=hn u.length (by rw[e];simp)
   unfold Lib.occAt at this
   rw[e,VQ,Ws]at this
   have hp:sub.isPrefixOf (sub++v)=true:=Xu.2 (List.prefix_append _ _)
   rw[hp]at this
   cases this
 ·rw[h]
  constructor
  ·intro _
   unfold Lib.occAt at ho
   obtain⟨v,hv⟩:=Xu.1 ho
   refine⟨x.take i,v,?_⟩
   rw[VQ,hv,List.take_append_drop]
  ·intro _;omega
theorem xI(x sub:aa)(h:Lib.contains x sub=false):vH sub x:=by
 intro u v e
 have:=(mD x sub).2 ⟨u,v,e⟩
 rw[h]at this
 cases this
theorem Nu:∀(m:Nat) (l:List Nat) (a:Nat),(∀n,a<=n->n<a+m->n∈l)->m<=l.length
 | 0,_,_,_=>Nat.zero_le _
 | m+1,l,a,h=>by
  have hm:=h (a+m) (by omega) (by omega)
  have:=Nu m (l.erase (a+m)) a (fun n h1 h2=>(List.mem_erase_of_ne (by omega)).2 (h n h1 (by omega)))
  rw[List.length_erase_of_mem hm]at this
  have:=List.length_pos_of_mem hm
  omega
theorem Ze(xs:List (aa))(k:Nat)(h:xs.flatten.length<9*10 ^ k):∃n,n<10 ^ (k+1)/\gz xs n=false:=by
 have hk:0<10 ^ k:=Nat.pow_pos (by decide)
 apply Classical.byContradiction
 intro hc
 have hall:∀n,n<10 ^ (k+1)->gz xs n=true:=fun n hn=>by
  cases hs:gz xs n
  ·exact absurd ⟨n,hn,hs⟩ hc
  ·rfl
 have key:∀n,10 ^ k<=n->n<10 ^ k+(xs.flatten.length+1)->n∈(List.range xs.flatten.length).map fun p=>sS ((xs.flatten.drop (p+3)).take (k+1)):=by
  intro n h1 h2
  have hn:n<10 ^ (k+1):=by rw[Nat.pow_succ];omega
  have hs:=hall n hn
  unfold gz at hs
  rw[List.any_eq_true]at hs
  obtain⟨x,hx,hin⟩:=hs
  obtain⟨u,v,e⟩:=(mD _ _).1 hin
  obtain⟨A,B,hAB⟩:=List.append_of_mem hx
  have hF:xs.flatten=(A.flatten++u)++(gU (Ao n)++(v++B.flatten)):=by rw[hAB,List.flatten_append,List.flatten_cons,e];simp
  rw[List.mem_map]
  refine⟨(A.flatten++u).length,List.mem_range.2 ?_,?_⟩
  ·rw[hF,ZV]
   simp only[gU,Ao,ZV,List.length_cons]
   omega
  ·have hd:xs.flatten.drop ((A.flatten++u).length+3)=Lib.decDigits n++(v++B.flatten):=by
    rw[hF,<-List.drop_drop,Ws]
    rfl
   have hl:(Lib.decDigits n).length=k+1:=by rw[Lib.decDigits_length,Lib.nDigits_unique k n h1 hn]
   show sS ((xs.flatten.drop ((A.flatten++u).length+3)).take (k+1))=n
   rw[hd,<-hl,List.take_left,vI]
 have:=Nu (xs.flatten.length+1) _ (10 ^ k) key
 rw[List.length_map,List.length_range]at this
 omega
def vX(p:Nat->Bool):Nat->Nat->Nat
 | 0,a=>a
 | f+1,a=>if p a then a else vX p f (a+1)
theorem Aa(p:Nat->Bool):∀(f a n:Nat),a<=n->n<a+f->p n=true->p (vX p f a)=true/\vX p f a<=n/\a<=vX p f a/\∀m,a<=m->m<vX p f a->p m=false
 | 0,a,n,h1,h2,_=>by omega
 | f+1,a,n,h1,h2,hp=>by
  unfold vX
  by_cases ha:p a=true
  ·rw[if_pos ha]
   exact⟨ha,h1,Nat.le_refl _,fun m h3 h4=>by omega⟩
  ·rw[if_neg ha]
   have hne:a≠n:=fun e=>ha (by rw[e];exact hp)
   obtain⟨i1,i2,i3,i4⟩:=Aa p f (a+1) n (by omega) (by omega) hp
   refine⟨i1,i2,by omega,fun m h3 h4=>?_⟩
   by_cases hm:m=a
   ·rw[hm];simpa using ha
   ·exact i4 m (by omega) h4
def o5(xs:List (aa)):Nat:=vX (fun n=>!gz xs n) (10 ^ (xs.flatten.length+1)) 0
def P6(xs:List (aa)):aa:=Ao (o5 xs)
theorem T9:∀k:Nat,k<9*10 ^ k
 | 0=>by decide
 | k+1=>by
  have:=T9 k
  rw[Nat.pow_succ]
  omega
theorem sG(xs:List (aa)):gz xs (o5 xs)=false/\∀m,m<o5 xs->gz xs m=true:=by
 obtain⟨n,hn,hs⟩:=Ze xs xs.flatten.length (T9 _)
 obtain⟨i1,_,_,i4⟩:=Aa (fun n=>!gz xs n) (10 ^ (xs.flatten.length+1)) 0 n (Nat.zero_le _) (by omega) (by simp[hs])
 have i1':(!gz xs (o5 xs))=true:=i1
 refine⟨by simpa using i1',fun m hm=>?_⟩
 have h':(!gz xs m)=false:=i4 m (Nat.zero_le _) hm
 simpa using h'
theorem yZ(xs:List (aa))(n:Nat)(h:gz xs n=false):o5 xs<=n:=by
 apply Classical.byContradiction
 intro hc
 have:=(sG xs).2 n (by omega)
 rw[h]at this
 cases this
theorem Rc(c:UInt8)(h1:48<=c.toNat)(h2:c.toNat<=57):dK c=true:=by
 have key:∀n:Fin 256,48<=n.val->n.val<=57->dK (UInt8.ofNat n.val)=true:=by decide +kernel
 have:=key ⟨c.toNat,c.toNat_lt⟩ h1 h2
 simpa using this
theorem Me(xs:List (aa))(h:xs.flatten.length<=20000):KV (P6 xs):=by
 obtain⟨n,hn,hs⟩:=Ze xs 4 (by omega)
 have hle:=yZ xs n hs
 have hd:=fI 4 (o5 xs) (by omega)
 refine⟨by simp[P6,Ao],?_,?_⟩
 ·show(Lib.decDigits (o5 xs)).length+1<=70
  rw[Lib.decDigits_length];omega
 ·intro c hc
  rcases List.mem_cons.1 hc with rfl|hc
  ·decide
  ·obtain⟨h1,h2⟩:=jM _ c hc
   exact Rc c h1 h2
theorem PU(xs:List (aa)):∀x∈xs,vH (gU (P6 xs)) x:=by
 intro x hx
 have h:=(sG xs).1
 unfold gz at h
 rw[List.any_eq_false]at h
 have h':=h x hx
 rw[Bool.not_eq_true]at h'
 exact xI _ _ h'
def toF(p:PB):Fl:=(⟨p.1.toArray⟩,⟨p.2.toArray⟩)
theorem N9(p:PB):fl2 (toF p)=p:=by simp[fl2,toF]
theorem QZ(L:List PB):(L.map toF).all eB=L.all dZ:=by
 rw[ZW]
 congr 1
def nH(L:List PB):aa:=bW (L.map toF)++[13,10]
theorem FE:∀(L:List Fl),L.all eB=true->(L.map Dy).all okB=true/\(L.map Dy).map (fun f=>(f.1,trimS f.2))=L.map fl2
 | [],_=>⟨rfl,rfl⟩
 | f::L,h=>by
  simp only[ZX,Bool.and_eq_true]at h
  obtain⟨i1,i2⟩:=FE L h.2
  have e3:trimS (Dy f).2=f.2.data.toList:=PX f h.1
  have ho:okB (Dy f)=true:=by
   unfold okB
   rw[e3]
   exact(oz h.1).2.2.2.2.2
  refine⟨by rw[GL,ZX,ho,i1];rfl,?_⟩
  rw[GL,GL,GL,i2,e3]
  rfl
theorem PL(L:List PB)(rest:aa)(h:L.all dZ=true):iA (nH L++rest)=.ok (L,rest):=by
 have hr:(L.map toF).all eB=true:=by rw[QZ];exact h
 obtain⟨h1,h2⟩:=Qk (L.map toF) hr rest
 obtain⟨c1,c2⟩:=FE (L.map toF) hr
 unfold iA nH
 rw[h1,h2]
 simp only[c1,if_true,c2]
 have:(L.map toF).map fl2=L:=by
  rw[List.map_map]
  conv=>rhs;rw[<-List.map_id L]
  exact List.map_congr_left fun p _=>N9 p
 rw[this]
theorem qQ:∀(xs:List (aa)) (n:Nat) (acc M:List FB),(∀f∈acc,jY f.1=true)->dm xs n acc=.ok M->∀f∈M,jY f.1=true
 | [],n,acc,M,ha,h=>by
  rw[dm]at h
  cases h
  exact ha
 | x::xs,n,acc,M,ha,h=>by
  rw[dm]at h
  by_cases hg:(o6 x&&!acc.isEmpty)=true
  ·rw[if_pos hg]at h
   refine qQ xs (n+1) (oO acc x) M (fun f hf=>?_) h
   unfold oO at hf
   cases hl:acc.getLast? with
   | none=>rw[hl]at hf;exact ha f hf
   | some g=>
    rw[hl]at hf
    rcases ZY.1 hf with hf|hf
    ·exact ha f (List.dropLast_subset _ hf)
    ·rw[ZZ.1 hf]
     exact ha g (List.mem_of_getLast? hl)
  ·rw[if_neg hg]at h
   cases hfo:il x with
   | none=>rw[hfo]at h;cases h
   | some f=>
    rw[hfo]at h
    refine qQ xs (n+1) (acc++[f]) M (fun g hg2=>?_) h
    rcases ZY.1 hg2 with hg2|hg2
    ·exact ha g hg2
    ·rw[ZZ.1 hg2]
     unfold il at hfo
     by_cases hc:((Lib.cut x [58]).2.2&&jY (Lib.cut x [58]).1)=true
     ·rw[if_pos hc]at hfo
      simp only[Bool.and_eq_true]at hc
      rw[<-Option.some.inj hfo]
      exact hc.2
     ·rw[if_neg hc]at hfo;cases hfo
theorem Qm(s:aa)(L:List PB)(rest:aa)(h:iA s=.ok (L,rest)):L.all dZ=true:=by
 unfold iA at h
 cases hr:dm (hl s).1 0 []with
 | error e=>rw[hr]at h;cases h
 | ok M=>
  rw[hr]at h
  simp only at h
  by_cases hm:M.all okB=true
  ·rw[if_pos hm]at h
   simp only[Except.ok.injEq,Prod.mk.injEq]at h
   rw[<-h.1,ZW,Z0]
   intro f hf
   have hn:=qQ _ _ _ _ (fun g hg=>absurd hg (by simp)) hr f hf
   have ho:=Z0.1 hm f hf
   show(jY f.1&&iK (trimS f.2))=true
   rw[hn]
   exact ho
  ·rw[if_neg hm]at h;cases h
def Y0:mq where
 hw:=nH
 hr:=iA
 pk:=Tx.packS
 up:=Tx.unpackS
 qt:=Tx.quoteS
 uq:=Tx.unquoteS
 bnd:=P6
 back:=fun L rest h=>PL L rest h
 good:=fun s L rest h=>Qm s L rest h
 up_pk:=Tx.unpack_pack
 uq_qt:=Tx.unquote_quote
 bok:=Me
 bap:=PU
end Go.Proofs.YtkldkhdigkpniaaGreatDoor
