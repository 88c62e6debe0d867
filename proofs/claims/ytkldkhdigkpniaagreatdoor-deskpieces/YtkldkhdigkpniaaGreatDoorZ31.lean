import Derived.Test.YtkldkhdigkpniaaGreatDoorZ30
open List renaming length_append → GL
namespace Go.Proofs.YtkldkhdigkpniaaGreatDoor
open Go.RowKit Go.Proofs.Tryz
theorem Ns(b:aa):(Tx.quoteS b).length<=6*b.length:=(Tx.quoteTo_length b b.length).1
theorem Re(b:aa):(Tx.packS b).length<=4*b.length+8:=by
 have h:=Tx.inLinesTo_length (Tx.packTo b ((b.length+2) / 3)) (Tx.packTo b ((b.length+2) / 3)).length
 have h2:∀k,(Tx.packTo b k).length=4*k:=by
  intro k
  induction k with
  | zero=>rfl
  | succ k ih=>simp[Tx.packTo,ih,Tx.fourL_length];omega
 rw[h2]at h
 show(Tx.inLinesTo _ _).length<=_
 rw[h2]
 omega
theorem Ik(b:aa)(h:b.length<=100000):(nT b).1.length<=16/\(nT b).2.length<=600008:=by
 have h1:=Ns b
 have h2:=Re b
 unfold nT
 split
 ·exact⟨(by decide:KN.length<=16),by simp only;omega⟩
 ·split
  ·exact⟨(by decide:D8.length<=16),by simp only;omega⟩
  ·exact⟨(by decide:qpN.length<=16),by simp only;omega⟩
theorem si(L:List Fl):(bW L).length<=3*hsz (L.map fl2):=by
 induction L with
 | nil=>exact Nat.le_refl _
 | cons f L ih=>
  have e:bW (f::L)=sH f++bW L:=rfl
  have h:=Cw f.1.data.toList f.2.data.toList
  rw[e,GL,List.map_cons,fB]
  have h2:(sH f).length<=3*((fl2 f).1.length+(fl2 f).2.length+2):=by
   unfold sH fl2
   simp only
   omega
  omega
theorem Fx(L:List PB):(nH L).length<=3*hsz L+2:=by
 unfold nH
 rw[GL]
 have h:=si (L.map toF)
 have e:(L.map toF).map fl2=L:=by
  rw[List.map_map]
  conv=>rhs;rw[<-List.map_id L]
  exact List.map_congr_left fun p _=>N9 p
 rw[e]at h
 simp;omega
theorem F3(bd:aa)(L:List PB):hsz (iQ bd L)<=3*hsz L+3*bd.length:=by
 induction L with
 | nil=>simp[iQ,hsz]
 | cons g L ih=>
  rw[qV,fB]
  split
  ·omega
  ·split
   ·have h1:=zk bd g.2
    have h2:hsz (gI L)<=hsz L:=rG _ _
    rw[fB]
    simp only
    omega
   ·rw[fB];omega
theorem PY(xs:List (aa)):(jJ xs).length<=70:=by
 unfold jJ
 split
 ·show(Lib.decDigits 0).length+1<=70
  rw[Lib.decDigits_length]
  have:=fI 0 0 (by decide)
  omega
 ·exact(Me xs (by omega)).2.1
def rX(xs:List (aa)):Nat:=(xs.map fun x=>x.length+100).sum
theorem mM(x:aa)(xs:List (aa)):rX (x::xs)=x.length+100+rX xs:=by simp[rX]
theorem CU(b:aa)(hb:b.length<=70)(xs:List (aa)):(gK b xs).length<=rX xs+80:=by
 unfold gK
 have h:(xs.flatMap (jP b)).length<=rX xs:=by
  induction xs with
  | nil=>simp[rX]
  | cons x xs ih=>
   rw[List.flatMap_cons,GL,mM]
   have:(jP b x).length<=x.length+100:=by simp[jP,gU];omega
   omega
 rw[GL,GL,show(gU b).length=b.length+2 by simp[gU],show([45,45,13,10]:aa).length=4 from rfl]
 omega
theorem Iw(xs:List (aa)):xs.flatten.length<=rX xs:=by
 induction xs with
 | nil=>simp[rX]
 | cons x xs ih=>rw[List.flatten_cons,GL,mM];omega
theorem NN(bn:List (aa)->aa)(hbn:∀xs:List (aa),xs.flatten.length<=40000000->(bn xs).length<=70):∀(d D n:Nat) (p:PT) (q:aa×Nat),SmT D p->iF bn d n p=.ok q->n+1<=q.2/\q.2<=40/\q.1.length+100<=(q.2 - n)*1000000:=by
 intro d
 induction d with
 | zero=>intro D n p q _ h;cases h
 | succ d ih=>
  intro D n p q hS h
  match D,p,hS with
  | D+1,.mk L b many ps,hS=>
   obtain⟨⟨s0,s1,s2⟩,s3,s4,s5⟩:=hS
   unfold iF at h
   split at h
   ·cases h
   ·split at h
    ·cases h
    ·have hall:∀(ps:List PT),(∀p∈ps,SmT D p)->∀(m:Nat) (r:List (aa)×Nat),dA (iF bn d) ps m=.ok r->m<=40->m<=r.2/\r.2<=40/\rX r.1<=(r.2 - m)*1000000:=by
      intro ps
      induction ps with
      | nil=>intro _ m r h hm;cases h;exact⟨Nat.le_refl _,hm,by simp[rX]⟩
      | cons x ps ihx=>
       intro hs m r h hm
       unfold dA at h
       cases h1:iF bn d m x with
       | error c=>rw[h1]at h;cases h
       | ok q1=>
        rw[h1]at h
        simp only at h
        cases h2:dA (iF bn d) ps q1.2 with
        | error c=>rw[h2]at h;cases h
        | ok q2=>
         rw[h2]at h
         cases h
         obtain⟨a1,a2,a3⟩:=ih D m x q1 (hs x (by simp)) h1
         obtain⟨b1,b2,b3⟩:=ihx (fun p hp=>hs p (by simp[hp])) q1.2 q2 h2 a2
         refine⟨by simp only;omega,b2,?_⟩
         simp only
         rw[mM]
         omega
     split at h
     ·cases h4:dA (iF bn d) ps (n+1)with
      | error c=>rw[h4]at h;cases h
      | ok r=>
       rw[h4]at h
       cases h
       obtain⟨a1,a2,a3⟩:=hall ps s5 (n+1) r h4 (by omega)
       have hf:=hbn r.1 (by have:=Iw r.1;omega)
       have hp:=CU (bn r.1) hf r.1
       have c1:=F3 (bn r.1) L
       have hh:=Fx (iQ (bn r.1) L)
       refine⟨a1,a2,?_⟩
       simp only
       rw[GL]
       omega
     ·cases h
      obtain⟨e1,e2⟩:=Ik b s3
      have hh:=Fx (gI L++[(uZ,(nT b).1)])
      have hl:hsz (gI L)<=hsz L:=rG _ _
      have hl2:hsz [(uZ,(nT b).1)]<=25+16+2:=by
       rw[fB]
       have:uZ.length=25:=rfl
       simp only[hsz,List.map_nil,List.sum_nil]
       omega
      rw[GI]at hh
      refine⟨Nat.le_refl _,by simp only;omega,?_⟩
      simp only
      rw[GL]
      omega
theorem Ct(d D n:Nat)(p:PT)(q:aa×Nat)(hS:SmT D p)(h:dY d n p=.ok q):n+1<=q.2/\q.2<=40/\q.1.length+100<=(q.2 - n)*1000000:=NN jJ (fun xs _=>PY xs) d D n p q hS h
def sw(O:Except Nat (aa×Nat)):Except Nat (aa):=
 match O with
 | .error c=>.error c
 | .ok q=>if 20000<q.1.length then .error 4 else .ok q.1
mutual
inductive YT:PT->PT->Prop
 | many (L:List PB) (b bd:aa) (ps qs:List PT):KV bd->Oq ps qs->YT (.mk L b true ps) (.mk (iQ bd L) b true qs)
 | one (L:List PB) (b how:aa):how.length<=16->YT (.mk L b false []) (.mk (gI L++[(uZ,how)]) b false [])
inductive Oq:List PT->List PT->Prop
 | nil:Oq [] []
 | cons (p q:PT) (ps qs:List PT):YT p q->Oq ps qs->Oq (p::ps) (q::qs)
end
def RgT:Nat->PT->Prop
 | 0,_=>False
 | d+1,.mk L _ _ ps=>L.all dZ=true/\∀p∈ps,RgT d p
theorem OG:∀(d n:Nat) (s:aa),bU d n s=vB Y0 d n s
 | 0,_,_=>rfl
 | d+1,n,s=>by
  have hall:∀(xs:List (aa)) (n:Nat),dA (bU d) xs n=dA (vB Y0 d) xs n:=by
   intro xs
   induction xs with
   | nil=>intro n;rfl
   | cons x xs ih=>
    intro n
    unfold dA
    rw[OG d n x]
    cases vB Y0 d n x with
    | error c=>rfl
    | ok q=>simp only;rw[ih]
  have e:∀L b,eX L b=AA Y0 L b:=fun _ _=>rfl
  have e2:Y0.hr s=iA s:=rfl
  unfold bU vB
  by_cases h1:40<=n
  ·rw[if_pos h1,if_pos h1]
  ·rw[if_neg h1,if_neg h1,e2]
   cases iA s with
   | error c=>rfl
   | ok h=>
    simp only
    cases aS h.1 with
    | error c=>rfl
    | ok o=>
     cases o with
     | none=>
      simp only
      rw[e]
      cases AA Y0 h.1 h.2<;>rfl
     | some b=>
      simp only
      cases dV b h.2 with
      | none=>rfl
      | some xs=>
       simp only
       rw[hall]
       cases dA (vB Y0 d) xs (n+1)<;>rfl
def Sm1:Nat->PT->Prop
 | 0,_=>False
 | D+1,.mk L b _ ps=>(L.length<=2990/\(∀f∈L,f.1.length<=2500/\f.2.length<=2500)/\hsz L<=9000)/\b.length<=3000/\ps.length<=60/\∀p∈ps,Sm1 D p
end Go.Proofs.YtkldkhdigkpniaaGreatDoor
