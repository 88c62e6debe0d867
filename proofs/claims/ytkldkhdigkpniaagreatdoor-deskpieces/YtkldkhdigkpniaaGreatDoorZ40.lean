import Derived.Test.YtkldkhdigkpniaaGreatDoorZ28
import Derived.Test.YtkldkhdigkpniaaGreatDoorZ37
import Derived.Deep.RegionHeld3
import Derived.Maps.AppendAt
import Derived.Test.YtkldkhdigkpniaaGreatDoorZ34
set_option maxHeartbeats 4000000
set_option maxRecDepth 100000
open Nat renaming le_refl → GL, zero_le → VQ, zero_add → Ws
open List renaming length_append → Xu, length_map → ZV, mem_map → ZW, length_cons → ZX, take_of_length_le → ZY, append_nil → ZZ, getElem?_eq_some_iff → Z0, map_append → Z4, getElem_mem → Z5, mem_append → Z6
open Go.World renaming block_lt_of_cell? → Z7
namespace Go.Proofs.YtkldkhdigkpniaaGreatDoor
open Go.RowKit Go.Proofs.Px Go.Proofs.Tryz
theorem Ot(A:Option Addr)(n c:Nat)(hn:n<=c)(ty:TypeId)(w:World):(Builtin.append_ #[52,52] ty #[.slice A n c,.slice none 0 0]).run prog w=.ok (.slice A n c) w:=by
 obtain⟨i0,hi,hz0,hz1,hz2⟩:=info_parts Tryz.infoStr
 cases A with
 | none=>simp[Builtin.append_,run_underlying underlying52,hn,Builtin.lenOf,Builtin.firstCells,sizeOf,typeInfo,hi]
 | some a=>simp[storeCells,Builtin.append_,run_underlying underlying52,hn,Builtin.lenOf,Builtin.firstCells,sizeOf,typeInfo,hi]
theorem WK(W:World)(ty:TypeId)(B C:Nat)(v u:Value)(L M:List ByteArray)(hown:aV W B v L)(hu:aV W C u M)(hl:L.length+M.length<=1000000000)(hB:B<=W.heap.size):
  ∃v' w',(Builtin.append_ #[52,52] ty #[v,u]).run prog W=.ok v' w'/\aV w' B v' (L++M)/\W.grownBy w' v.ownBlock/\(v'.ownBlock=v.ownBlock\/v'.ownBlock=some W.heap.size):=by
 rcases hu.shape with⟨rfl,rfl⟩|⟨g,cap,rfl,_,_,hc,_,hcell⟩
 ·rcases hown.shape with⟨rfl,rfl⟩|⟨g,cap,rfl,_,_,hc,_⟩
  ·exact⟨_,W,Ot _ _ _ af _ _,aV.nil _ _,⟨rfl,rfl,rfl,GL _,fun _ _ _=>rfl⟩,.inl rfl⟩
  ·exact⟨_,W,Ot _ _ _ hc _ _,by rw[ZZ];exact hown,⟨rfl,rfl,rfl,GL _,fun _ _ _=>rfl⟩,.inl rfl⟩
 ·obtain⟨i0,hi,hz0,hz1,hz2⟩:=info_parts Tryz.infoStr
  have hne:∀j x,(M.map Value.string)[j]?=some x->W.cell? ((⟨g,0,none⟩:Addr).add j)=some x:=by
   intro j x hj
   rw[Addr.add_lit,Ws]
   rw[List.getElem?_map]at hj
   obtain⟨y,hy,rfl⟩:=Option.map_eq_some_iff.1 hj
   have hjl:=(Z0.1 hy).1
   rw[hcell j hjl,<-(Z0.1 hy).2]
  have hone:∀x∈M.map Value.string,x.oneCell'=true:=by
   intro x hx
   obtain⟨y,_,rfl⟩:=ZW.1 hx
   rfl
  by_cases hM0:M.length=0
  ·have _hM:M=[]:=List.eq_nil_of_length_eq_zero hM0
   obtain⟨v',w',hr,k2,k3,k4,k5⟩:=run_append_own_at (P:=prog) W B 52 ty 9 i0 (.string ⟨#[]⟩) 1 16 underlying52 hi hz0 hz1 hz2 rfl (by decide) v L.length (L.map Value.string) hown ⟨g,0,none⟩ M.length cap (M.map Value.string) (by simp) hne hone (by unfold maxLen;omega) (by omega) hB
   refine⟨v',w',hr,?_,k3,k5⟩
   unfold aV
   rw[Xu,Z4]
   exact k2
  ·obtain⟨v',w',hr,k2,k3,k4,k5⟩:=run_append_own_at (P:=prog) W B 52 ty 9 i0 (.string ⟨#[]⟩) 1 16 underlying52 hi hz0 hz1 hz2 rfl (by decide) v L.length (L.map Value.string) hown ⟨g,0,none⟩ M.length cap (M.map Value.string) (by simp) hne hone (by unfold maxLen;omega) (by omega) hB
   refine⟨v',w',hr,?_,k3,k5⟩
   unfold aV
   rw[Xu,Z4]
   exact k2
theorem P7{ops:Array Oper}{o:Oper}{a:Act}{K:Act->World->Prop}{Q:Exit->Act->World->Prop}{E:Prop}(W:World)(hgd:o.guard=none)(s x:Operand)(ho:o.op=.call { callee:=.builtin .append,args:=#[s,x],argTypes:=#[52,52] })
  (B C:Nat) (v u:Value) (L M:List ByteArray) (hs:a.eval s=v) (hown:aV W B v L) (hx:a.eval x=u) (hu:aV W C u M) (hl:L.length+M.length<=1000000000) (hB:B<=W.heap.size)
  (h:∀v' w',aV w' B v' (L++M)->W.grownBy w' v.ownBlock->(v'.ownBlock=v.ownBlock\/v'.ownBlock=some W.heap.size)->K (a.put o.dst v') w'):if Region.wanted o (yielded ops a.tmps)=true then Oper.wp prog o a W K Q else E:=by
 have hw:Region.wanted o (yielded ops a.tmps)=true:=by simp[Region.wanted,hgd]
 rw[if_pos hw]
 obtain⟨v',w',hr,k2,k3,k4⟩:=WK W o.type B C v u L M hown hu hl hB
 unfold Oper.wp execOp
 simp only[ho,resolve,invoke,builtin,Sem.run_bind,Sem.run_pure,Result.andThen_ok,List.map_toArray,List.map_cons,List.map_nil,hs,hx,hr]
 exact h v' w' k2 k3 k4
theorem iZ{W w':World}{r:Option Nat}(hg:W.grownBy w' r){b i:Nat}{u:Value}(hr:r≠some b)(h:W.cell? ⟨b,i,none⟩=some u):w'.cell? ⟨b,i,none⟩=some u:=by
 have e:=hg.block b (Z7 W _ h) (fun x=>hr x.symm)
 unfold World.cell? at h ⊢
 simp only[e]
 exact h
def eP(ps:List XP)(j:Nat):List ByteArray:=(ps.take j).flatMap fun p=>p.fs.map (·.2)++[p.bd]
theorem Kl(ps:List XP)(j:Nat)(hj:j<ps.length):eP ps (j+1)=eP ps j++ps[j].fs.map (·.2)++[ps[j].bd]:=by
 unfold eP
 rw[List.take_add_one,List.getElem?_eq_getElem hj,List.flatMap_append]
 simp
theorem Cg(ps:List XP)(j:Nat)(h:∀p∈ps,p.fs.length<=100000)(hl:ps.length<=60):(eP ps j).length<=6000060:=by
 have key:∀qs:List XP,(∀p∈qs,p.fs.length<=100000)->(qs.flatMap fun p=>p.fs.map (·.2)++[p.bd]).length<=qs.length*100001:=by
  intro qs
  induction qs with
  | nil=>intro _;simp
  | cons q qs ih=>
   intro hq
   have h1:=ih (fun p hp=>hq p (List.mem_cons_of_mem _ hp))
   have h2:=hq q (List.mem_cons_self)
   rw[List.flatMap_cons,Xu,Xu,ZV,ZX]
   simp only[ZX,List.length_nil]
   omega
 have h1:=key (ps.take j) (fun p hp=>h p (List.mem_of_mem_take hp))
 have h2:(ps.take j).length<=ps.length:=List.length_take_le' _ _
 unfold eP
 omega
theorem nZ{a W w':World}{C g:Nat}{u0 u1:Value}(h:Below W.heap.size W w')(c0:W.cell? ⟨g,0,none⟩=some u0)(c1:W.cell? ⟨g,1,none⟩=some u1)(hb:Below C a W)(hC:C<=W.heap.size):w'.cell? ⟨g,0,none⟩=some u0/\w'.cell? ⟨g,1,none⟩=some u1/\Below C a w':=
 ⟨(h.cell (p:=⟨g,0,none⟩) (Z7 W _ c0)).trans c0,(h.cell (p:=⟨g,1,none⟩) (Z7 W _ c1)).trans c1,hb.trans (h.mono hC)⟩
theorem F8{a W w':World}{C g:Nat}{u0 u1:Value}{r:Option Nat}(h:W.grownBy w' r)(c0:W.cell? ⟨g,0,none⟩=some u0)(c1:W.cell? ⟨g,1,none⟩=some u1)(hb:Below C a W)(hC:C<=W.heap.size)(hr:r≠some g)(hrC:∀k,r=some k->C<=k):w'.cell? ⟨g,0,none⟩=some u0/\w'.cell? ⟨g,1,none⟩=some u1/\Below C a w':=
 ⟨iZ h hr c0,iZ h hr c1,hb.grown h hC hrC⟩
theorem NA{w:World}{b:Nat}{hv:Value}{hl:List Fl}{A:Option Addr}{cap:Nat}{ps:List XP}{root:Nat}(h:BN w b hv hl A cap ps root):
  Calls prog 124 #[.pointer (some ⟨b,0,none⟩)] w fun e w'=>∃u,e=.returned u/\aV w' w.heap.size u (hl.map (·.2)++eP ps ps.length)/\Below w.heap.size w w':=by
 have HB:=Box.m h
 have c0:=h.c0
 have c1:=h.c1
 have hcap:=h.cap
 have hplen:=h.xl.len
 have HSz:=Box.m (fun j=>Cg ps j (fun p hp=>(h.xl.sm p hp).hs.1) hplen)
 have hhl:=h.hs.1
 have hblk:b<w.heap.size:=Z7 w _ c0
 clear h
 go_enter func124,ntmps124
 go_wp2_with fail
 refine(FW hv hl _ HB.o.hs HB.o.hf).mono ?_
 rintro e w1 ⟨v1,rfl,hO1,hb1⟩
 have HB1:=Box.m (HB.o.below hb1)
 have d1:=HB1.o.c1
 have HO1:=Box.m hO1
 obtain⟨A1,n1,cp1,hv1⟩:∃A1 n1 cp1,v1=.slice A1 n1 cp1:=by
  rcases hO1.shape with⟨rfl,_⟩|⟨g,cg,rfl,_⟩
  ·exact⟨_,_,_,rfl⟩
  ·exact⟨_,_,_,rfl⟩
 subst hv1
 clear hO1
 go_wp2
 go_loopw [3,16] (fun x i wr=>∃j:Nat,j<=ps.length/\i=.int .i64 j/\Box (aV wr w.heap.size x (hl.map (·.2)++eP ps j))/\Below w.heap.size w wr) (fun _ i _=>ps.length - (intOf i).toNat)
 case atStart=>exact⟨0,VQ _,rfl,⟨by rw[show eP ps 0=[]from rfl,ZZ];exact HO1.o⟩,hb1⟩
 case round=>
  obtain⟨j,hj,rfl,HO,hb⟩:=hrel
  have hsz:=hb.size
  by_cases hlt:j<ps.length
  ·have HBr:=Box.m (HB.o.below hb)
   obtain⟨g,off,e1,hx⟩:=HBr.o.xl.at_ j hlt
   subst e1
   have HXS:=Box.m (HBr.o.xl.sm ps[j] (Z5 hlt))
   have HSu:=Box.m (Kl ps j hlt)
   generalize ps[j]=p at hx HXS HSu
   have hbP:Below wr.heap.size wr (wr.alloc (fq p)):=ag.alloc af _
   have hgP:=aP wr (fq p)
   have HFl:=Box.m (HXS.o.fl.below hbP af)
   have HHs:=Box.m HXS.o.hs
   have hfl:=HXS.o.hs.1
   have hln:(hl.map (·.2)++eP ps j).length<=7000000:=by
    have:=HSz.o j
    rw[Xu,ZV]
    omega
   have HLn:=Box.m hln
   clear hln
   have hOA:aV (wr.alloc (fq p)) w.heap.size u3 (hl.map (·.2)++eP ps j):=World.ownsRow.alloc HO.o _
   have HOA:=Box.m hOA
   clear hOA
   have HNx:Box (hl.map (·.2)++eP ps (j+1)=(hl.map (·.2)++eP ps j)++p.fs.map (·.2)++[p.bd]):=⟨by rw[HSu.o];simp⟩
   clear HSu
   generalize hl.map (·.2)++eP ps j=LL at HO HOA HLn HNx
   obtain⟨hd,fs,bd,id,⟨a0,a1,a2,a3,a4,a5,a6,a7⟩⟩:=p
   obtain⟨AH,capH,hvH,-,-⟩:=_root_.id HXS.o.fl
   simp only at hvH
   subst hvH
   obtain⟨f0,f1,f2,f3,f4,f5,f6,f7,f8,f9,fa⟩:=hx
   have k1:(0:Int)<=(j:Int):=by omega
   have k2:(j:Int)<(ps.length:Int):=by omega
   unfold fq at hbP hgP HFl HOA
   simp only at hbP hgP HFl HOA HHs hfl HNx f0 f1 f2 f3 f4 f5 f6 f7 f8 f9 fa
   have hr3:∀x,wr.heap.size<=x->u3.ownBlock≠some x:=fun x hx e=>by have:=(World.ownsRow.lt HO.o x e).2;omega
   have hc3:∀x,u3.ownBlock=some x->w.heap.size<=x:=fun x e=>(World.ownsRow.lt HO.o x e).1
   have HR3:=Box.m hr3
   have HC3:=Box.m hc3
   have hbW:=hb.trans (hbP.mono hsz)
   have hpl:(fs.map (·.2)).length<=100000:=by rw[ZV];exact hfl
   have HPl:=Box.m hpl
   clear HO HXS hr3 hc3 hpl
   go_wp2_with fail
   obtain⟨p0,p1,-⟩:=uh (p:=⟨.slice AH fs.length capH,fs,bd,id,⟨a0,a1,a2,a3,a4,a5,a6,a7⟩⟩) hgP
   simp only[Ws]at p0 p1
   have hszW:wr.heap.size<(wr.alloc (.cells #[.slice AH fs.length capH,.string bd,.string id,.string a0,.bool a1,.string a2,.string a3,.bool a4,.string a5,.bool a6,.string a7] 104)).heap.size:=by simp
   generalize wr.alloc (.cells #[.slice AH fs.length capH,.string bd,.string id,.string a0,.bool a1,.string a2,.string a3,.bool a4,.string a5,.bool a6,.string a7] 104)=W at p0 p1 hgP HFl HOA hbW hbP hszW ⊢
   have hCW:w.heap.size<=W.heap.size:=by omega
   clear f0 f1 f2 f3 f4 f5 f6 f7 f8 f9 fa hgP hbP
   go_region_held3 (fun w'=>w'.cell? ⟨wr.heap.size,0,none⟩=some (.slice AH fs.length capH)/\w'.cell? ⟨wr.heap.size,1,none⟩=some (.string bd)/\Below w.heap.size w w')
    ((go_split_ands;first
     | exact nZ ag.drew p0 p1 hbW hCW
     | exact nZ hb5 (by assumption) (by assumption) (by assumption) (Below.size (by assumption))
     | exact nZ (ag.alloc af _) (by assumption) (by assumption) (by assumption) (Below.size (by assumption))
     | exact F8 hg6 (by assumption) (by assumption) (by assumption) (Below.size (by assumption)) (HR3.o _ af) HC3.o
     | exact F8 hg7 (by assumption) (by assumption) (by assumption) (Below.size (by assumption)) hr6 hc6))
    (first
     | (go_at_call 192;refine(FW (.slice AH fs.length capH) fs _ HHs.o (HFl.o.below (by first|exact(Below.refl W.heap.size W).drew|exact((Below.refl W.heap.size W).alloc af _).drew) af)).mono ?_;rintro e w5 ⟨u5,rfl,hO5,hb5⟩)
     | (refine P7 _ (by rfl) (.tmp 20) (.tmp 23) (by rfl) w.heap.size _ u3 u5 LL (fs.map (·.2)) (by rfl) (by first|exact aV.below HOA.o ((Below.refl W.heap.size W).drew.trans hb5) af|exact World.ownsRow.alloc (aV.below HOA.o ((Below.refl W.heap.size W).drew.trans hb5) af) _|exact aV.below (World.ownsRow.alloc HOA.o _) (ag.drew.trans hb5) af) (by rfl) (by first|exact hO5|exact World.ownsRow.alloc hO5 _) (by have:=HLn.o;have:=HPl.o;omega) (by have:=hb5.size;first|(simp at this ⊢;omega)|(simp at this;omega)) ?_;intro v6 w6 hO6 hg6 hk6;have hr6:v6.ownBlock≠some wr.heap.size:=(by have hs5:=hb5.size;rcases hk6 with hk|hk<;>rw[hk]<;>first|exact HR3.o _ af|(simp at hs5 ⊢;omega));have hc6:∀k,v6.ownBlock=some k->w.heap.size<=k:=(fun k e=>(World.ownsRow.lt hO6 k e).1);have hs6:=hg6.size)
     | (refine uI _ (by rfl) (.tmp 24) (.tmp 27) (by rfl) w.heap.size v6 (LL++fs.map (·.2)) (by rfl) (by first|exact hO6|exact World.ownsRow.alloc hO6 _) _ _ bd (by rfl) (by first|(simp;done)|exact iZ hg6 (HR3.o _ (by have:=hb5.size;simp at this;omega)) (by simp;done)|exact iZ hg6 (HR3.o _ (by omega)) ((hb5.cell (p:=⟨W.heap.size,0,none⟩) (by simp)).trans (by simp))) (by have:=HLn.o;have:=HPl.o;rw[Xu];omega) (by have:=hb5.size;first|(simp at this hs6 ⊢;omega)|(simp at this hs6;omega)|omega) ?_;intro v7 w7 hO7 hg7 hk7)
     | fail)
   all_goals
    have HO7:Box (aV w7 w.heap.size v7 (hl.map (·.2)++eP ps (j+1))):=⟨by rw[HNx.o];exact hO7⟩
    go_split_ands
    clear hO7 hg7 hk7 hg6 hk6 hr6 hc6 hO6 hO5 hb5 hs6 HNx HR3 HC3 HOA HFl HHs
    go_wp2
    go_roundw
    case rel=>exact⟨j+1,by omega,by go_num,HO7,by assumption⟩
    case measure=>simp[intOf];omega
  ·have HE:Box (hl.map (·.2)++eP ps j=hl.map (·.2)++eP ps ps.length):=⟨by
    unfold eP
    rw[ZY (by omega),ZY af]⟩
   rw[HE.o]at HO
   clear HE
   rcases HO.o.shape with⟨rfl,_⟩|⟨g2,cap2,rfl,_⟩
   all_goals
    go_wp2
    go_ret
    exact⟨_,rfl,HO.o,hb⟩
theorem Mw(s m:ByteArray)(g:Nat)(w:World)(hs:s.size<=1000000)(hx:Max w)(hc:w.cell? ⟨g,0,none⟩=some (.string m)):
  Calls prog 125 #[.string s,.pointer (some ⟨g,0,none⟩)] w fun e w'=>e=.returned (.bool (Lib.contains s.data.toList m.data.toList))/\Below w.heap.size w w':=by
 obtain⟨_,mm,hmm⟩:=hx
 have HK:=Box.m (Tryz.strings_Contains s m mm w (by omega) hmm)
 clear hmm
 go_enter func125,ntmps125
 go_wp2_with fail
 refine HK.o.mono ?_
 rintro e w1 ⟨rfl,hw1⟩
 obtain rfl:=hw1.symm
 clear HK
 go_wp2
 go_ret
 exact⟨rfl,Below.refl _ _⟩
theorem VV(x1:Value)(p:ByteArray->Bool)(A:Option Addr)(cap:Nat)(ps:List ByteArray)(w:World)(hX:TL w (.slice A ps.length cap) ps)(hlen:ps.length<=10000000)(hc:∀q∈ps,∀w1,Below w.heap.size w w1->Calls prog 125 #[.string q,x1] w1 fun e w2=>e=.returned (.bool (p q))/\Below w1.heap.size w1 w2):
  Calls prog 193 #[.slice A ps.length cap,.func (.func 125) #[] #[x1]] w fun e w'=>e=.returned (jB (ps.findIdx? p))/\Below w.heap.size w w':=by
 obtain⟨R,HR⟩:∃R,Box (ps.findIdx? p=R):=⟨_,⟨rfl⟩⟩
 rw[HR.o]
 obtain⟨A',cap',hv,hcap,hcell⟩:=hX
 simp only[Value.slice.injEq,true_and]at hv
 obtain⟨rfl,rfl⟩:=hv
 have HX:=Box.m hcell
 have HC:=Box.m hc
 clear hcell hc
 go_enter func193,ntmps193
 go_wp2
 go_loopg [8] ps.length (fun gf i wx=>∃k:Nat,k<=ps.length/\i=.int .i64 k/\Below w.heap.size w wx/\Box (∀j (hj:j<ps.length),j<k->p ps[j]=false)/\ps.length - k<=gf)
 case atStart=>exact⟨0,VQ _,rfl,Below.refl _ _,⟨fun j _ h=>absurd h (by omega)⟩,by omega⟩
 case round=>
  obtain⟨k,hk,rfl,hb,HA,hgf⟩:=hrel
  by_cases hlt:k<ps.length
  ·obtain⟨g,off,e1,hx0⟩:=HX.o k hlt
   subst e1
   have hx:wr.cell? ⟨g,off+k,none⟩=some (.string ps[k]):=(hb.cell (p:=⟨g,off+k,none⟩) (Z7 w _ hx0)).trans hx0
   have HLT:=Box.m hlt
   have HCL:=Box.m (HC.o ps[k] (Z5 hlt) wr hb)
   cases hq:p ps[k]
   ·have HA':Box (∀j (hj:j<ps.length),j<k+1->p ps[j]=false):=⟨fun j hj hjk=>by
     by_cases h:j=k
     ·subst h;exact hq
     ·exact HA.o j hj (by omega)⟩
    rw[hq]at HCL
    obtain⟨q,hp⟩:∃q,ps[k]=q:=⟨_,rfl⟩
    rw[hp]at hx HCL
    clear HC HA hq hp hx0
    go_wp2_with fail
    refine HCL.o.mono ?_
    rintro e w1 ⟨rfl,hb1⟩
    clear HCL
    go_wp2
    go_roundg (ps.length - (k+1))
    case measure=>have:=HLT.o;omega
    case rel=>exact⟨k+1,HLT.o,by go_num,hb.trans (hb1.mono hb.size),HA',by have:=HLT.o;omega⟩
   ·have HE:Box (R=some k):=⟨by
     rw[<-HR.o]
     exact nN p ps k hlt hq (fun j hj=>HA.o j (by omega) hj)⟩
    rw[hq]at HCL
    obtain⟨q,hp⟩:∃q,ps[k]=q:=⟨_,rfl⟩
    rw[hp]at hx HCL
    clear HC HA hq hp hx0
    go_wp2_with fail
    refine HCL.o.mono ?_
    rintro e w1 ⟨rfl,hb1⟩
    clear HCL
    go_wp2
    go_ret
    exact⟨by rw[HE.o];rfl,hb.trans (hb1.mono hb.size)⟩
  ·have HE:Box (R=none):=⟨by
    rw[<-HR.o,List.findIdx?_eq_none_iff]
    intro q hq
    obtain⟨j,hj,rfl⟩:=List.mem_iff_getElem.1 hq
    exact HA.o j hj (by omega)⟩
   clear HC HX HA
   go_wp2
   go_ret
   exact⟨by rw[HE.o];rfl,hb⟩
theorem We(x1:Value)(p:ByteArray->Bool)(A:Option Addr)(cap:Nat)(ps:List ByteArray)(w:World)(hX:TL w (.slice A ps.length cap) ps)(hlen:ps.length<=10000000)(hc:∀q∈ps,∀w1,Below w.heap.size w w1->Calls prog 125 #[.string q,x1] w1 fun e w2=>e=.returned (.bool (p q))/\Below w1.heap.size w1 w2):
  Calls prog 127 #[.slice A ps.length cap,.func (.func 125) #[] #[x1]] w fun e w'=>e=.returned (.bool (ps.any p))/\Below w.heap.size w w':=by
 have HI:=Box.m (VV x1 p A cap ps w hX hlen hc)
 obtain⟨R,HR⟩:∃R,Box (ps.findIdx? p=R):=⟨_,⟨rfl⟩⟩
 have HA:Box (ps.any p=R.isSome):=⟨by rw[<-HR.o,List.findIdx?_isSome]⟩
 rw[HA.o]
 rw[HR.o]at HI
 clear hX hc HR HA
 go_enter func127,ntmps127
 go_wp2_with fail
 refine HI.o.mono ?_
 rintro e w1 ⟨rfl,hb1⟩
 clear HI
 cases R with
 | none=>
  simp only[jB]
  go_wp2
  go_ret
  exact⟨rfl,hb1⟩
 | some i=>
  have k0:(0:Int)<=(i:Int):=by omega
  simp only[jB]
  go_wp2
  go_ret
  exact⟨rfl,hb1⟩
def fw(xs:List (aa))(n:Nat):Bool:=xs.any fun x=>Lib.contains x (gZ n)
theorem ZG(xs:List (aa))(k:Nat)(h:xs.flatten.length<9*10 ^ k):∃n,n<10 ^ (k+1)/\fw xs n=false:=by
 have hk:0<10 ^ k:=Nat.pow_pos (by decide)
 apply Classical.byContradiction
 intro hc
 have hall:∀n,n<10 ^ (k+1)->fw xs n=true:=fun n hn=>by
  cases hs:fw xs n
  ·exact absurd ⟨n,hn,hs⟩ hc
  ·rfl
 have key:∀n,10 ^ k<=n->n<10 ^ k+(xs.flatten.length+1)->n∈(List.range xs.flatten.length).map fun p=>sS ((xs.flatten.drop (p+2)).take (k+1)):=by
  intro n h1 h2
  have hn:n<10 ^ (k+1):=by rw[Nat.pow_succ];omega
  have hs:=hall n hn
  unfold fw at hs
  rw[List.any_eq_true]at hs
  obtain⟨x,hx,hin⟩:=hs
  obtain⟨u,v,e⟩:=(mD _ _).1 hin
  obtain⟨A,B,hAB⟩:=List.append_of_mem hx
  have hF:xs.flatten=(A.flatten++u)++(gZ n++(v++B.flatten)):=by rw[hAB,List.flatten_append,List.flatten_cons,e];simp
  rw[ZW]
  refine⟨(A.flatten++u).length,List.mem_range.2 ?_,?_⟩
  ·rw[hF,Xu]
   simp only[gZ,Xu,ZX]
   omega
  ·have hd:xs.flatten.drop ((A.flatten++u).length+2)=Lib.decDigits n++(v++B.flatten):=by
    rw[hF,<-List.drop_drop,List.drop_left]
    rfl
   have hl:(Lib.decDigits n).length=k+1:=by rw[Lib.decDigits_length,Lib.nDigits_unique k n h1 hn]
   show sS ((xs.flatten.drop ((A.flatten++u).length+2)).take (k+1))=n
   rw[hd,<-hl,List.take_left,vI]
 have:=Nu (xs.flatten.length+1) _ (10 ^ k) key
 rw[ZV,List.length_range]at this
 omega
theorem PP(xs:List (aa))(n:Nat)(h:fw xs n=false):∀x∈xs,vH (gZ n) x:=by
 intro x hx
 refine xI _ _ ?_
 unfold fw at h
 rw[List.any_eq_false]at h
 simpa using h x hx
theorem Ud(f:Nat->Bool):∀n,f n=false->∃m,m<=n/\f m=false/\∀j,f j=false->m<=j:=by
 intro n
 induction n using Nat.strongRecOn with
 | _ n ih=>
  intro h
  by_cases hx:∃j,j<n/\f j=false
  ·obtain⟨j,hj,hf⟩:=hx
   obtain⟨m,h1,h2,h3⟩:=ih j hj hf
   exact⟨m,by omega,h2,h3⟩
  ·refine⟨n,GL _,h,fun j hj=>?_⟩
   by_cases hl:n<=j
   ·exact hl
   ·exact absurd ⟨j,by omega,hj⟩ hx
theorem G6{w:World}{b:Nat}{hv:Value}{hl:List Fl}{A:Option Addr}{cap:Nat}{ps:List XP}{root:Nat}(h:BN w b hv hl A cap ps root)(hm:Max w)(ht:Tab w)(hT:((hl.map (·.2)++eP ps ps.length).map lst).flatten.length<9000000):
  Calls prog 70 #[.pointer (some ⟨b,0,none⟩)] w fun e w'=>∃(m:ByteArray) (k:Nat),e=.returned (.string m)/\m.data.toList=gZ k/\m.size<=12/\(∀x∈hl.map (·.2)++eP ps ps.length,vH (gZ k) x.data.toList)/\(∀j,fw ((hl.map (·.2)++eP ps ps.length).map lst) j=false->k<=j)/\Below w.heap.size w w':=by
 have HTx:=Box.m (NA h)
 have HLen:Box ((hl.map (·.2)++eP ps ps.length).length<=10000000):=⟨by
  have h1:=Cg ps ps.length (fun p hp=>(h.xl.sm p hp).hs.1) h.xl.len
  have h2:=h.hs.1
  rw[Xu,ZV]
  omega⟩
 have HSz:Box (∀x∈hl.map (·.2)++eP ps ps.length,x.size<=1000000):=⟨fun x hx=>by
  rcases Z6.1 hx with hx|hx
  ·obtain⟨f,hf,rfl⟩:=ZW.1 hx
   have:=(h.hs.2 f hf).2
   omega
  ·unfold eP at hx
   rw[ZY af]at hx
   obtain⟨p,hp,hx⟩:=List.mem_flatMap.1 hx
   have hs:=h.xl.sm p hp
   rcases Z6.1 hx with hx|hx
   ·obtain⟨f,hf,rfl⟩:=ZW.1 hx
    have:=(hs.hs.2 f hf).2
    omega
   ·rw[List.mem_singleton.1 hx]
    have:=hs.bs
    omega⟩
 obtain⟨n9,hn9,hs9⟩:=ZG _ 6 (show _<9*10 ^ 6 by omega)
 obtain⟨n0,hle,hs0,hmin⟩:=Ud _ n9 hs9
 have hn0:n0<10 ^ 7:=by omega
 clear hs9 hn9 hle
 generalize hl.map (·.2)++eP ps ps.length=xs at HTx HLen HSz hs0 hT hmin ⊢
 have HN0:=Box.m hs0
 have HMin:=Box.m hmin
 have hn07:n0<10000000:=hn0
 have HM:=Box.m hm
 have HT:=Box.m ht
 have hw0:=hm.1
 clear h hm ht hs0 hn0 hT hmin
 go_enter func70,ntmps70
 go_wp2_with fail
 refine HTx.o.mono ?_
 rintro e w1 ⟨v1,rfl,hO1,hb1⟩
 obtain⟨A1,cp1,hv1⟩:∃A1 cp1,v1=.slice A1 xs.length cp1:=by
  rcases hO1.shape with⟨h1,h2⟩|⟨g,cg,h1,_⟩
  ·exact⟨none,0,by rw[h1,h2];rfl⟩
  ·exact⟨_,_,h1⟩
 subst hv1
 have HO1:=Box.m (aV.tl hO1)
 clear hO1 HTx
 go_wp2
 go_loopw [4] (fun i wr=>∃k:Nat,i=.int .i64 k/\k<=n0/\Below w1.heap.size w1 wr) (fun i _=>n0+1 - (intOf i).toNat)
 case atStart=>exact⟨0,rfl,VQ _,Below.refl _ _⟩
 case round=>
  obtain⟨k,rfl,hk,hbr⟩:=hrel
  have hb0r:=hb1.trans (hbr.mono hb1.size)
  have HTr:=Box.m (HT.o.below hb0r HT.o.lt)
  go_wp2_with fail
  refine(lF k _ (by omega) HTr.o).mono ?_
  rintro e w2 ⟨rfl,hb2⟩
  have hdl:(Lib.decDigits k).length<=10:=by
   rw[Lib.decDigits_length]
   exact fI 9 k (by omega)
  obtain⟨D,HD⟩:∃D:ByteArray,Box (D=⟨(Lib.decDigits k).toArray⟩):=⟨_,⟨rfl⟩⟩
  rw[<-HD.o]
  have hds:D.size<=10:=by rw[<-ae,HD.o];exact hdl
  obtain⟨E,HE⟩:∃E:ByteArray,Box (E=⟨#[64,98]⟩++D):=⟨_,⟨rfl⟩⟩
  have HEl:Box (E.data.toList=gZ k):=⟨by rw[HE.o,HD.o];simp[gZ]⟩
  have hes:E.size<=12:=by rw[HE.o,ByteArray.size_append];show 2+D.size<=_;omega
  have hsum:¬9223372036854775807<2+D.size:=by omega
  have hb12:=hbr.trans (hb2.mono hbr.size)
  have hba:=aD w2 (.cells #[.string E] 9)
  have hb13:=hb12.trans (hba.mono hb12.size)
  have hb03:=hb1.trans (hb13.mono hb1.size)
  have hE0:(w2.alloc (.cells #[.string E] 9)).cell? ⟨w2.heap.size,0,none⟩=some (.string E):=Kb (bG w2 (.cells #[.string E] 9))
  have HCt:=Box.m (We (.pointer (some ⟨w2.heap.size,0,none⟩)) (fun x=>Lib.contains x.data.toList E.data.toList) A1 cp1 xs _ (HO1.o.below hb13) HLen.o (fun q hq w3 hb3=>Mw q E w2.heap.size w3 (HSz.o q hq) ((HM.o.below hb03 hw0).below hb3 (HM.o.below hb03 hw0).1) ((hb3.cell (p:=⟨w2.heap.size,0,none⟩) (by simp)).trans hE0)))
  have hst:(xs.any fun x=>Lib.contains x.data.toList E.data.toList)=fw (xs.map lst) k:=by
   rw[HEl.o]
   unfold fw
   rw[List.any_map]
   rfl
  rw[hst]at HCt
  clear hst
  cases hq:fw (xs.map lst) k
  ·have HU:Box (∀x∈xs,vH (gZ k) x.data.toList):=⟨fun x hx=>PP _ k hq (lst x) (List.mem_map_of_mem hx)⟩
   rw[hq]at HCt
   clear HD HO1 HM HT HTr HN0 hq HLen HSz
   go_wp2_with fail
   rw[<-HE.o]
   refine HCt.o.mono ?_
   rintro e w4 ⟨rfl,hb4⟩
   have hE4:=(hb4.cell (p:=⟨w2.heap.size,0,none⟩) (by simp)).trans hE0
   go_wp2
   go_ret
   exact⟨E,k,rfl,HEl.o,hes,HU.o,fun j hj=>Nat.le_trans hk (HMin.o j hj),hb03.trans (hb4.mono hb03.size)⟩
  ·have hkn:k+1<=n0:=by
    have h1:k≠n0:=fun e=>by
     have:=HN0.o
     rw[<-e,hq]at this
     cases this
    omega
   rw[hq]at HCt
   clear HD HTr hq
   go_wp2_with fail
   rw[<-HE.o]
   refine HCt.o.mono ?_
   rintro e w4 ⟨rfl,hb4⟩
   go_wp2
   go_roundw
   case rel=>exact⟨k+1,by go_num,hkn,hb13.trans (hb4.mono hb13.size)⟩
   case measure=>simp[intOf];omega
end Go.Proofs.YtkldkhdigkpniaaGreatDoor
