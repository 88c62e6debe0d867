import Derived.Test.YtkldkhdigkpniaaGreatDoorZ40
import Derived.Test.YtkldkhdigkpniaaGreatDoorZ41
import Derived.Test.YtkldkhdigkpniaaGreatDoorZ33
import Derived.Deep.RegionHeld3
set_option maxHeartbeats 2000000
set_option maxRecDepth 100000
open List renaming length_map → GL, map_append → VQ, map_map → Ws, take_of_length_le → Xu, length_append → ZV, getElem_mem → ZW, take_add_one → ZX, getElem?_eq_getElem → ZY, mem_singleton → ZZ
open Nat renaming le_trans → Z0, le_refl → Z4, zero_add → Z5, zero_le → Z6, lt_or_ge → Z7
open Array renaming getElem?_eq_some_iff → Z8, getElem?_eq_none → Z9
open Go.World renaming block_lt_of_cell? → aaa
namespace Go.Proofs.YtkldkhdigkpniaaGreatDoor
open Go.RowKit Go.Proofs.Px Go.Proofs.Tryz
theorem Qb(hl:List Fl)(ps:List XP)(root:Nat):lq ⟨hl.map fl2,ps.map XP.bp,root⟩=(hl.map (·.2)++eP ps ps.length).map lst:=by
 unfold lq eP
 rw[Xu af,VQ,Ws,Ws,List.flatMap_map,List.map_flatMap]
 congr 1
 congr 1
 funext p
 show(p.fs.map fl2).map (·.2)++[p.bd.data.toList]=_
 rw[Ws,VQ,Ws]
 rfl
theorem YI{w:World}{S:Nat->Prop}{d:Nat}{v:P4}{L:List PB}{b:aa}{many:Bool}{ps:List PT}(h:PV w S (d+1+1) v (.mk L b many ps)):∃A cap,v.2.2.2=.slice A ps.length cap/\ps.length<=cap/\YN w A (ps.map rO):=by
 obtain⟨A,cap,bb,lh,h1,h2,h3,h4,h5,h6,h7,h9,h10,h11⟩:=h
 refine⟨A,cap,h3,h9,fun k hk=>?_⟩
 rw[GL]at hk
 obtain⟨q,hc,hq⟩:=h11 k hk
 obtain⟨g,off,e,_,c0,c1,c2,c3⟩:=hc
 have hm:(ps.map rO)[k]'(by rw[GL];exact hk)=rO ps[k]:=List.getElem_map _
 cases hp:ps[k]with
 | mk L' b' m' ps'=>
  rw[hp]at hq
  obtain⟨A',cap',bb',lh',g1,g2,g3,⟨A1,cp1,g4,_⟩,_⟩:=hq
  rw[g4]at c0
  rw[g1]at c1
  rw[g2]at c2
  rw[g3]at c3
  refine⟨g,off,_,_,_,_,_,_,_,e,c0,c1,?_,c3⟩
  rw[c2,hm,hp]
  rfl
theorem yU{ops:Array Oper}{o:Oper}{a:Act}{K:Act->World->Prop}{Q:Exit->Act->World->Prop}{E:Prop}(W:World)(hgd:o.guard=none)(s x:Operand)(ho:o.op=.call { callee:=.builtin .append,args:=#[s,x],argTypes:=#[87,87] })
  (B:Nat) (v:Value) (L:List P4) (hs:a.eval s=v) (hown:fD W B v L) (b c:Nat) (p:P4) (hx:a.eval x=.slice (some ⟨b,0,none⟩) 1 c) (h0:W.cell? ⟨b,0,none⟩=some p.1) (h1:W.cell? ⟨b,1,none⟩=some p.2.1) (h2:W.cell? ⟨b,2,none⟩=some p.2.2.1) (h3:W.cell? ⟨b,3,none⟩=some p.2.2.2)
  (hc:p.1.oneCell'=true/\p.2.1.oneCell'=true/\p.2.2.1.oneCell'=true/\p.2.2.2.oneCell'=true) (hl:L.length+1<=1000000) (hB:B<=W.heap.size)
  (h:∀v' w',fD w' B v' (L++[p])->W.grownBy w' v.ownBlock->(v'.ownBlock=v.ownBlock\/v'.ownBlock=some W.heap.size)->K (a.put o.dst v') w'):if Region.wanted o (yielded ops a.tmps)=true then Oper.wp prog o a W K Q else E:=by
 have hw:Region.wanted o (yielded ops a.tmps)=true:=by simp[Region.wanted,hgd]
 rw[if_pos hw]
 obtain⟨i0,hi,hz0,hz1,hz2⟩:=info_parts Tryz.infoPart
 have hne:∀j u,(dW [p])[j]?=some u->W.cell? ((⟨b,0,none⟩:Addr).add j)=some u:=by
  intro j u hj
  have hjl:j<4:=(List.getElem?_eq_some_iff.1 hj).1
  rw[Addr.add_lit,Z5]
  match j,hjl,hj with
  | 0,_,hj=>rw[h0];exact hj
  | 1,_,hj=>rw[h1];exact hj
  | 2,_,hj=>rw[h2];exact hj
  | 3,_,hj=>rw[h3];exact hj
 have hone:∀u∈dW [p],u.oneCell'=true:=by
  intro u hu
  have:u=p.1\/u=p.2.1\/u=p.2.2.1\/u=p.2.2.2:=by simpa[dW]using hu
  rcases this with rfl|rfl|rfl|rfl
  ·exact hc.1
  ·exact hc.2.1
  ·exact hc.2.2.1
  ·exact hc.2.2.2
 obtain⟨v',w',hr,k2,k3,_⟩:=run_append_own (P:=prog) W B 87 o.type 92 i0 (.agg #[.slice none 0 0,.string ⟨#[]⟩,.bool false,.slice none 0 0]) 4 72 underlying87 hi hz0 hz1 hz2 rfl (by decide) v L.length (dW L) hown ⟨b,0,none⟩ 1 c (dW [p]) rfl hne hone (by unfold maxLen;omega) (by omega) hB
 have hblk:=qJ W B 87 o.type 92 i0 (.agg #[.slice none 0 0,.string ⟨#[]⟩,.bool false,.slice none 0 0]) 4 72 underlying87 hi hz0 hz1 hz2 v L.length (dW L) hown ⟨b,0,none⟩ 1 c (dW [p]) rfl hne hone (by decide) (by unfold maxLen;omega) (by omega) v' w' hr
 unfold Oper.wp execOp
 simp only[ho,resolve,invoke,builtin,Sem.run_bind,Sem.run_pure,Result.andThen_ok,List.map_toArray,List.map_cons,List.map_nil,hs,hx,hr]
 refine h v' w' ?_ k3 hblk
 unfold fD
 rw[ZV,vC]
 exact k2
theorem fD.belowP{w w':World}{B C:Nat}{v:Value}{L:List P4}(h:fD w B v L)(hb:Below C w w')(hC:w.heap.size<=C):fD w' B v L:=by
 obtain⟨h1,h2⟩:=h
 refine⟨h1,?_⟩
 rcases h2 with h2|⟨g,cap,cur,a,b,c,d⟩
 ·exact .inl h2
 ·refine .inr ⟨g,cap,cur,a,b,?_,d⟩
  rw[hb.block g ?_]
  ·exact c
  ·have:=(Z8.1 c).1
   omega
theorem LY{w:World}{b:Nat}{hv:Value}{hl:List Fl}{A:Option Addr}{cap:Nat}{ps:List XP}{root:Nat}(h:BN w b hv hl A cap ps root):
  Calls prog 54 #[.pointer (some ⟨b,0,none⟩)] w fun e w'=>∃u L,e=.returned u/\fD w' w.heap.size u L/\L.map (fun q:P4=>q.2.1)=ps.map (fun p=>Value.string p.bd)/\Below w.heap.size w w':=by
 have HB:=Box.m h
 have c1:=h.c1
 have hcap:=h.cap
 have hplen:=h.xl.len
 clear h
 go_enter func54,ntmps54
 go_wp2
 go_loopw [3,11] (fun x i wr=>∃(j:Nat) (L:List P4),j<=ps.length/\i=.int .i64 j/\L.length<=j/\Box (fD wr w.heap.size x L)/\Box (L.map (fun q:P4=>q.2.1)=(ps.take j).map (fun p=>Value.string p.bd))/\Below w.heap.size w wr) (fun _ i _=>ps.length - (intOf i).toNat)
 case atStart=>exact⟨0,[],Z6 _,rfl,Z4 _,⟨fD.nil _ _⟩,⟨rfl⟩,Below.refl _ _⟩
 case round=>
  obtain⟨j,L,hj,rfl,hLj,HO,HV,hb⟩:=hrel
  have hsz:=hb.size
  by_cases hlt:j<ps.length
  ·have HBr:=Box.m (HB.o.below hb)
   obtain⟨g,off,e1,hx⟩:=HBr.o.xl.at_ j hlt
   subst e1
   have HXS:=Box.m (HBr.o.xl.sm ps[j] (ZW hlt))
   have HV2:Box ((ps.take (j+1)).map (fun p=>Value.string p.bd)=(ps.take j).map (fun p=>Value.string p.bd)++[Value.string ps[j].bd]):=⟨by rw[ZX,ZY hlt,VQ];rfl⟩
   generalize ps[j]=p at hx HXS HV2
   have hbP:Below wr.heap.size wr (wr.alloc (fq p)):=ag.alloc af _
   have hgP:=aP wr (fq p)
   have HFl:=Box.m (HXS.o.fl.below hbP af)
   have HTi:=Box.m HXS.o.hs.half.tiny
   have HOA:Box (fD (wr.alloc (fq p)) w.heap.size u3 L):=⟨World.ownsRow.alloc HO.o _⟩
   obtain⟨AH,capH,hvH,-,-⟩:=_root_.id HXS.o.fl
   obtain⟨hd,fs,bd,id,⟨a0,a1,a2,a3,a4,a5,a6,a7⟩⟩:=p
   simp only at hvH
   subst hvH
   obtain⟨f0,f1,f2,f3,f4,f5,f6,f7,f8,f9,fa⟩:=hx
   have k1:(0:Int)<=(j:Int):=by omega
   have k2:(j:Int)<(ps.length:Int):=by omega
   unfold fq at hbP hgP HFl HOA
   simp only at hbP hgP HFl HOA HTi HV2 f0 f1 f2 f3 f4 f5 f6 f7 f8 f9 fa
   have HR3:Box (∀x,wr.heap.size<=x->u3.ownBlock≠some x):=⟨fun x hx e=>by have:=(World.ownsRow.lt HO.o x e).2;omega⟩
   have HC3:Box (∀x,u3.ownBlock=some x->w.heap.size<=x):=⟨fun x e=>(World.ownsRow.lt HO.o x e).1⟩
   have hbW:=hb.trans (hbP.mono hsz)
   clear HO HXS
   go_wp2_with fail
   obtain⟨p0,p1,-⟩:=uh (p:=⟨.slice AH fs.length capH,fs,bd,id,⟨a0,a1,a2,a3,a4,a5,a6,a7⟩⟩) hgP
   simp only[Z5]at p0 p1
   have hszW:wr.heap.size<(wr.alloc (.cells #[.slice AH fs.length capH,.string bd,.string id,.string a0,.bool a1,.string a2,.string a3,.bool a4,.string a5,.bool a6,.string a7] 104)).heap.size:=by simp
   generalize wr.alloc (.cells #[.slice AH fs.length capH,.string bd,.string id,.string a0,.bool a1,.string a2,.string a3,.bool a4,.string a5,.bool a6,.string a7] 104)=W at p0 p1 hgP HFl HOA hbW hbP hszW ⊢
   have hCW:w.heap.size<=W.heap.size:=by omega
   have hL1:L.length+1<=1000000:=by omega
   clear f0 f1 f2 f3 f4 f5 f6 f7 f8 f9 fa hgP hbP
   go_region_held3 (fun w'=>w'.cell? ⟨wr.heap.size,0,none⟩=some (.slice AH fs.length capH)/\w'.cell? ⟨wr.heap.size,1,none⟩=some (.string bd)/\Below w.heap.size w w')
    ((go_split_ands;first
     | exact nZ ag.drew p0 p1 hbW hCW
     | exact nZ hb5 (by assumption) (by assumption) (by assumption) (Below.size (by assumption))
     | exact nZ (ag.alloc af _) (by assumption) (by assumption) (by assumption) (Below.size (by assumption))
     | exact F8 hg6 (by assumption) (by assumption) (by assumption) (Below.size (by assumption)) (HR3.o _ af) HC3.o))
    (first
     | (go_at_call 103;refine(pI (.slice AH fs.length capH) fs _ HTi.o (HFl.o.below (by exact(Below.refl W.heap.size W).drew) af)).mono ?_;rintro e w5 ⟨u5,rfl,hO5,hb5⟩;obtain⟨A5,cp5,rfl,-⟩:=pM hO5)
     | (refine yU _ (by rfl) (.tmp 15) (.tmp 22) (by rfl) w.heap.size u3 L (by rfl) (World.ownsRow.alloc (fD.belowP HOA.o ((Below.refl W.heap.size W).drew.trans hb5) af) _) _ _ (.slice A5 fs.length cp5,.string bd,.bool false,.slice none 0 0) (by rfl) (by simp) (by simp) (by simp) (by simp) ⟨rfl,rfl,rfl,rfl⟩ hL1 (by have:=hb5.size;simp at this ⊢;omega) ?_;intro v6 w6 hO6 hg6 hk6)
     | fail)
   have HO7:Box (fD w6 w.heap.size v6 (L++[(.slice A5 fs.length cp5,.string bd,.bool false,.slice none 0 0)])):=⟨hO6⟩
   go_split_ands
   clear hO6 hg6 hk6 hO5 hb5 HR3 HC3 HOA HFl HTi
   go_wp2
   go_roundw
   case rel=>exact⟨j+1,_,by omega,by go_num,by rw[ZV];simp;omega,HO7,⟨by rw[VQ,HV.o,HV2.o];rfl⟩,by assumption⟩
   case measure=>simp[intOf];omega
  ·have HE:Box (L.map (fun q:P4=>q.2.1)=ps.map (fun p=>Value.string p.bd)):=⟨by rw[HV.o,Xu (by omega)]⟩
   clear HV
   rcases HO.o.shape with⟨rfl,_⟩|⟨g2,cap2,rfl,_⟩
   all_goals
    go_wp2
    go_ret
    exact⟨_,_,rfl,HO.o,HE.o,hb⟩
theorem WV{w:World}{B:Nat}{u:Value}{M:List Fl}(hO:bJ w B u M)(hh:uW M)(bb:ByteArray):PV w (fun i=>B<=i) 1 (u,.string bb,.bool false,.slice none 0 0) (.mk (M.map fl2) bb.data.toList false []):=
 ⟨none,0,bb,M,rfl,rfl,rfl,hO.flb,rfl,hh,rfl,Z4 _,by decide,fun k hk=>absurd hk (by simp)⟩
theorem S9{w:World}{B d:Nat}{u v:Value}{M:List Fl}{L:List P4}{ps:List PT}(hO:bJ w B u M)(hh:uW M)(hP:fD w B v L)(hV:PVL w (fun i=>B<=i) d L ps)(hl:L.length<=100001)(bb:ByteArray)(m:Bool):PV w (fun i=>B<=i) (d+1) (u,.string bb,.bool m,v) (.mk (M.map fl2) bb.data.toList m ps):=by
 obtain⟨A,cap,rfl,hc,hpc⟩:=hP.pc
 refine⟨A,cap,bb,M,rfl,rfl,by rw[<-hV.1],hO.flb,rfl,hh,rfl,by rw[<-hV.1];exact hc,by rw[<-hV.1];exact hl,fun k hk=>?_⟩
 have hk':k<L.length:=by rw[hV.1];exact hk
 refine⟨L[k],PC.mono (hpc k hk') (fun i _ hi=>?_),hV.2 k hk' hk⟩
 exact(World.ownsRow.lt hP i hi.symm).1
def BK(w:World)(b:Nat)(hv v:Value)(r:Int):Prop:=w.heap[b]?=some (.cells #[hv,v,.int .i64 r] 107 (0,0))
theorem BK.cells{w:World}{b:Nat}{hv v:Value}{r:Int}(h:BK w b hv v r):w.cell? ⟨b,0,none⟩=some hv/\w.cell? ⟨b,1,none⟩=some v/\w.cell? ⟨b,2,none⟩=some (.int .i64 r)/\(∀i,w.frozen? ⟨b,i,none⟩=false)/\b<w.heap.size:=by
 have h':w.heap[b]?=_:=h
 refine⟨by simp[World.cell?,h'],by simp[World.cell?,h'],by simp[World.cell?,h'],fun i=>by simp[World.frozen?,h'],(Z8.1 h').1⟩
theorem BK.setP{w:World}{b:Nat}{hv v:Value}{r:Int}(h:BK w b hv v r)(u:Value):BK (w.setCell ⟨b,1,none⟩ u) b hv u r:=by
 unfold BK
 rw[setCell_eq_setRow w b 1 _ _ _ _ h]
 exact setRow_heap w b _ _ _ _ h
theorem BK.setR{w:World}{b:Nat}{hv v:Value}{r:Int}(h:BK w b hv v r)(k:Int):BK (w.setCell ⟨b,2,none⟩ (.int .i64 k)) b hv v k:=by
 unfold BK
 rw[setCell_eq_setRow w b 2 _ _ _ _ h]
 exact setRow_heap w b _ _ _ _ h
theorem BK.gr{w w':World}{b:Nat}{hv v:Value}{r:Int}{o:Option Nat}(h:BK w b hv v r)(hg:w.grownBy w' o)(ho:some b≠o):BK w' b hv v r:=(hg.block b h.cells.2.2.2.2 ho).trans h
theorem mf{w a c:World}{b:Nat}{r:Option Nat}(h:w.grownBy a (some b))(k:a.grownBy c r)(hr:∀k,r=some k->k=b\/w.heap.size<=k):w.grownBy c (some b):=
 ⟨k.os.trans h.os,k.tape.trans h.tape,k.output.trans h.output,Z0 h.size k.size,fun i hi hb=>(k.block i (Nat.lt_of_lt_of_le hi h.size) (fun e=>by
  rcases hr i e.symm with rfl|hle
  ·exact hb rfl
  ·omega)).trans (h.block i hi hb)⟩
theorem aJ{w w':World}{r:Option Nat}(hg:w.grownBy w' r){p:Addr}{u:Value}(h:w.cell? p=some u)(hr:r≠some p.block):w'.cell? p=some u:=
 (World.cell?_of_block (hg.block p.block (aaa w _ h) (fun e=>hr e.symm))).trans h
theorem XV(lh:List Fl)(L:List PB)(h:lh.map fl2=L)(h1:L.length<=20000)(h2:∀f∈L,f.1.length<=20000/\f.2.length<=20000):Hd lh:=by
 subst h
 rw[GL]at h1
 refine⟨by omega,fun f hf=>?_⟩
 have h3:=h2 (fl2 f) (List.mem_map_of_mem hf)
 have e1:(fl2 f).1.length=f.1.size:=ae f.1
 have e2:(fl2 f).2.length=f.2.size:=ae f.2
 omega
theorem VR{w:World}{S:Nat->Prop}{d:Nat}{v:P4}{L:List PB}{b:aa}{many:Bool}{ps:List PT}{A:Option Addr}{cap:Nat}(h:PV w S (d+1+1) v (.mk L b many ps))(hd:HdT (d+1+1) (.mk L b many ps))(hA:v.2.2.2=.slice A ps.length cap)(k:Nat)(hk:k<ps.length):
  ∃g off A1 c1 bb m A2 n2 c2 lh,A=some ⟨g,off,none⟩/\w.cell? ⟨g,off+k*4,none⟩=some (.slice A1 (List.length lh) c1)/\w.cell? ⟨g,off+k*4+1,none⟩=some (.string bb)/\w.cell? ⟨g,off+k*4+2,none⟩=some (.bool m)/\w.cell? ⟨g,off+k*4+3,none⟩=some (.slice A2 n2 c2)/\FL w (.slice A1 (List.length lh) c1) lh/\Hd lh/\bb.size<=20000/\(∀base,kV base ps[k]=⟨lh.map fl2,bb.data.toList,Bg (jG (lh.map fl2) ciN),dJ base (lh.map fl2)⟩)/\∀b off,A1=some ⟨b,off,none⟩->0<List.length lh->S b:=by
 obtain⟨A0,cap0,bb0,lh0,h1,h2,h3,h4,h5,h6,h7,h9,h10,h11⟩:=h
 rw[hA]at h3
 simp only[Value.slice.injEq]at h3
 obtain⟨rfl,-,rfl⟩:=h3
 obtain⟨q,hc,hq⟩:=h11 k hk
 obtain⟨g,off,e,_,c0,c1,c2,c3⟩:=hc
 obtain⟨_,_,_,_,hall⟩:=hd
 have hdk:=hall ps[k] (ZW hk)
 cases hp:ps[k]with
 | mk L' b' m' ps'=>
  rw[hp]at hq hdk
  obtain⟨A',cap',bb',lh',g1,g2,g3,g4,g5,g6,g7,_⟩:=hq
  obtain⟨d1,d2,d3,d4,_⟩:=hdk
  have hF:=g4.fl
  obtain⟨A1,cp1,g8,_,g9⟩:=g4
  rw[g8]at c0 hF
  rw[g1]at c1
  rw[g2]at c2
  rw[g3]at c3
  refine⟨g,off,A1,cp1,bb',m',A',ps'.length,cap',lh',e,c0,c1,c2,c3,hF,XV lh' L' g5 d1 d2,?_,fun base=>?_,fun b off e0 hl=>?_⟩
  ·have e2:=ae bb'
   rw[g7]at e2
   omega
  ·rw[kV,g5,g7]
  ·obtain⟨b2,off2,e1,hS,_⟩:=g9 0 hl
   rw[e0]at e1
   simp only[Option.some.injEq,Addr.mk.injEq,and_true]at e1
   rw[e1.1]
   exact hS
def LoS(B:Nat)(v:Value):Prop:=∀A n c,v=.slice A n c->∀b off,A=some ⟨b,off,none⟩->0<n->B<=b
def Zy(O:Except Nat BB)(B:Nat)(e:Ending)(w':World):Prop:=
 match O with
 | .error c=>e=.returned (.tuple #[.pointer none,.iface 25 (.int .i64 c)])
 | .ok bb=>∃(b:Nat) (hv:Value) (hl:List Fl) (A:Option Addr) (cap:Nat) (ps:List XP) (root:Nat),e=.returned (.tuple #[.pointer (some ⟨b,0,none⟩),.nilIface])/\BN w' b hv hl A cap ps root/\bb=⟨hl.map fl2,ps.map XP.bp,root⟩/\B<=b/\LoS B hv/\(∀g off,A=some ⟨g,off,none⟩->B<=g)/\∀p∈ps,LoS B p.hd
abbrev zAV:AV:=⟨⟨#[]⟩,false,⟨#[]⟩,⟨#[]⟩,false,⟨#[]⟩,false,⟨#[]⟩⟩
end Go.Proofs.YtkldkhdigkpniaaGreatDoor
namespace Go.Proofs.YtkldkhdigkpniaaGreatDoor
open Go Go.Proofs.Tryz
section
variable {P:Program} {ops:Array Oper} {Q:Exit->Act->World->Prop} {md:Region.Mode} {S:World->Prop} {k:Nat}
def eT(P:Program)(md:Region.Mode)(ops:Array Oper)(Q:Exit->Act->World->Prop)(S:World->Prop)(k:Nat):Nat->Array Bool->Act->World->Prop
 | 0,listed,a,w=>Region.ready md ops listed=[]/\Q .normal a w
 | fuel+1,listed,a,w=>(Region.ready md ops listed=[]->Q .normal a w)/\∀i∈Region.ready md ops listed,wpOp P ops Q i (fun a' w'=>(i≠k->S w')/\eT P md ops Q S k fuel (listed.setIfInBounds i true) a' w') a w
theorem xN:∀(fuel:Nat) (listed:Array Bool) (a:Act) (w:World),eT P md ops Q S k fuel listed a w->wpAny P md ops Q fuel listed a w
 | 0,_,_,_,h=>h
 | fuel+1,_,_,_,h=>⟨h.1,fun i hi=>wpOp_mono (fun a' w' h'=>xN fuel _ a' w' h'.2) (h.2 i hi)⟩
def nG(md:Region.Mode)(ops:Array Oper)(k i:Nat):Bool:=match ops[k]? with
 | some o=>o.after.any fun e=>Region.binds md e&&e.on==i
 | none=>true
theorem ET{i:Nat}(hw:nG md ops k i=true){listed:Array Bool}(hi:i∈Region.ready md ops listed)(hk:k∈Region.ready md ops listed):False:=by
 obtain⟨_,ok,hok,hall⟩:=mem_ready.1 hk
 unfold nG at hw
 rw[hok]at hw
 simp only[Array.any_eq_true,Bool.and_eq_true,beq_iff_eq]at hw
 obtain⟨n,hn,hb,he⟩:=hw
 have h1:=hall ok.after[n] (Array.getElem_mem hn) hb
 have h0:=(mem_ready.1 hi).1
 rw[he]at h1
 rcases Z7 i listed.size with h'|h'
 ·simp[h']at h0 h1;rw[h0]at h1;cases h1
 ·simp[Z9 h']at h1
theorem JF{i:Nat}{oi:Oper}{v:Value}(hi:ops[i]?=some oi)(hsel:∀(j:Nat) (o:Oper) cs b,ops[j]?=some o->o.op≠.select cs b)
  (hQ:∀c a w,Q (.panic c) (a.put oi.dst v) w->Q (.panic c) a w) (hw:nG md ops k i=true) :
  ∀(fuel:Nat) (listed:Array Bool) (a:Act) (w:World),
   (∀j oj,ops[j]?=some oj->j≠i->listed.getD j true=false->(∀e∈oj.after,Region.binds md e=true->e.on≠i)->oi.apart ops oj=true) ->
   i∈Region.ready md ops listed->YieldsIf P ops S oi v a->S w ->
   eT P md ops Q S k fuel (listed.setIfInBounds i true) (a.put oi.dst v) w->eT P md ops Q S k (fuel+1) listed a w:=by
 intro fuel
 induction fuel with
 | zero=>
  intro listed a w _ hr hy hS H
  refine⟨fun h=>(by rw[h]at hr;cases hr),fun j hj=>?_⟩
  by_cases hji:j=i
  ·subst hji;exact hy.wpOp hi hS ⟨fun _=>hS,H⟩
  ·have:=ready_mono hj hji
   rw[H.1]at this
   cases this
 | succ fuel ih=>
  intro listed a w hfree hr hy hS H
  refine⟨fun h=>(by rw[h]at hr;cases hr),fun j hj=>?_⟩
  by_cases hji:j=i
  ·subst hji;exact hy.wpOp hi hS ⟨fun _=>hS,H⟩
  ·have hjk:j≠k:=fun e=>ET hw hr (e▸hj)
   have h1:=H.2 j (ready_mono hj hji)
   obtain⟨hjun,oj,hoj,hall⟩:=mem_ready.1 hj
   have hnot:∀e∈oj.after,Region.binds md e=true->e.on≠i:=fun e he hb heq=>by
    have h1:=hall e he hb
    have h0:=(mem_ready.1 hr).1
    rw[heq]at h1
    rcases Z7 i listed.size with h'|h'
    ·simp[h']at h0 h1;rw[h0]at h1;cases h1
    ·simp[Z9 h']at h1
   have h2:=wpOp_putIf hoj (hfree j oj hoj hji hjun hnot) (fun cs b=>hsel i oi cs b hi) (fun cs b=>hsel j oj cs b hoj) hQ hy h1
   have hfree':∀m om,ops[m]?=some om->m≠i->(listed.setIfInBounds j true).getD m true=false ->
     (∀e∈om.after,Region.binds md e=true->e.on≠i)->oi.apart ops om=true:=fun m om hm hmi hun hno=>by
    refine hfree m om hm hmi ?_ hno
    by_cases hjm:j=m
    ·subst hjm;exact hjun
    ·rw[getD_set_ne true hjm]at hun;exact hun
   refine wpOp_mono (fun a' w' h3=>⟨fun _=>h3.2.1 hjk,ih (listed.setIfInBounds j true) a' w' hfree' (ready_mono hr (Ne.symm hji)) h3.1 (h3.2.1 hjk) ?_⟩) h2
   rw[Array.setIfInBounds_comm _ _ hji]
   exact h3.2.2
theorem LJ{i:Nat}{oi:Oper}{v:Value}{fuel:Nat}{listed:Array Bool}{a:Act}{w:World}(hi:ops[i]?=some oi)
  (hs:Region.noSelect ops=true) (hf:Region.free md ops listed i=true) (hr:(Region.ready md ops listed).contains i=true) (hw:nG md ops k i=true)
  (hQ:∀c a w,Q (.panic c) (a.put oi.dst v) w->Q (.panic c) a w) (hy:YieldsIf P ops S oi v a) (hS:S w)
  (h:eT P md ops Q S k fuel (listed.setIfInBounds i true) (a.put oi.dst v) w):eT P md ops Q S k (fuel+1) listed a w:=
 JF hi (Region.noSelect_spec hs) hQ hw fuel listed a w (Region.free_spec hi hf) (by simpa using hr) hy hS h
theorem aj{i n:Nat}{oi:Oper}{fuel:Nat}{listed:Array Bool}{a:Act}{w:World}(v:Value)(hi:ops[i]?=some oi)(hd:oi.dst=some n)
  (hs:Region.noSelect ops=true) (hf:Region.free md ops listed i=true) (hr:(Region.ready md ops listed).contains i=true) (hw:nG md ops k i=true)
  (hQ:∀c a w,Q (.panic c) (a.put oi.dst v) w->Q (.panic c) a w) (hgd:oi.guard=none) (hy:∀w',S w'->(execOp a.eval oi).run P w'=.ok (.value v) w') (hS:S w)
  (h:eT P md ops Q S k fuel (listed.setIfInBounds i true) (a.put (some n) v) w):eT P md ops Q S k (fuel+1) listed a w:=
 LJ hi hs hf hr hw hQ (Or.inl ⟨by simp[Region.wanted,hgd],hy⟩) hS (by rw[hd];exact h)
theorem ai{i:Nat}{o:Oper}{fuel:Nat}{listed:Array Bool}{a:Act}{w:World}(hr:Region.ready md ops listed=[i])(ho:ops[i]?=some o)
  (h:∀K':Act->World->Prop,Shut (∀a w,(i≠k->S w)->eT P md ops Q S k fuel (listed.setIfInBounds i true) a w->K' a w)->if Region.wanted o (yielded ops a.tmps)=true then Oper.wp P o a w K' Q else K' (a.put o.dst undef) w):eT P md ops Q S k (fuel+1) listed a w:=by
 refine⟨fun h0=>(by rw[hr]at h0;cases h0),fun j hj=>?_⟩
 rw[hr]at hj
 obtain rfl:=ZZ.1 hj
 exact wpOp_step ho (fun K' hK=>h K' (fun a w hS hW=>hK a w ⟨hS,hW⟩))
theorem ja{listed:Array Bool}{a:Act}{w:World}(hr:Region.ready md ops listed=[])(h:Q .normal a w):∀fuel,eT P md ops Q S k fuel listed a w
 | 0=>⟨hr,h⟩
 | _+1=>⟨fun _=>h,by rw[hr];simp⟩
theorem fC(k:Nat)(S:World->Prop){id:Nat}{a:Act}{w:World}(hm:P.follows .mixedOrders=true)
  (h:eT P .any ops Q S k ops.size (Array.replicate ops.size false) a w.drew):(Code.region id ops true).wp P Q a w:=
 wp_region_any hm (xN _ _ _ _ h)
end
end Go.Proofs.YtkldkhdigkpniaaGreatDoor
namespace Go.Proofs.YtkldkhdigkpniaaGreatDoor
open Go.RowKit Go.Proofs.Px Go.Proofs.Tryz
theorem Blk.gr{w w':World}{b:Nat}{r:Option Nat}{v0 v1 v2 v3 v4 v5 v6 v7:Value}(h:Blk w b v0 v1 v2 v3 v4 v5 v6 v7)(hg:w.grownBy w' r)(hr:r≠some b):Blk w' b v0 v1 v2 v3 v4 v5 v6 v7:=
 ⟨aJ hg h.c0 hr,aJ hg h.c1 hr,aJ hg h.c2 hr,aJ hg h.c3 hr,aJ hg h.c4 hr,aJ hg h.c5 hr,aJ hg h.c6 hr,aJ hg h.c7 hr,fun i=>(World.frozen?_of_block (hg.block b (aaa w _ h.c0) (fun e=>hr e.symm))).trans (h.fz i)⟩
theorem kX.kept{w w':World}{B b:Nat}{v:Value}{L:List XP}(h:kX w B v L)(hg:w.grownBy w' (some b))(hb:b<B):kX w' B v L:=by
 refine World.ownsRow.kept h hg (.inr fun e=>?_)
 have:=(World.ownsRow.lt h b e).1
 omega
theorem kX.len{w:World}{B:Nat}{v:Value}{L:List XP}(h:kX w B v L):∃A cap,v=.slice A L.length cap/\L.length<=cap:=by
 rcases h.shape with⟨rfl,rfl⟩|⟨g,cap,rfl,_,_,hc⟩
 ·exact⟨none,0,rfl,Z4 _⟩
 ·exact⟨_,_,rfl,hc⟩
theorem Uh{w:World}{B cap:Nat}{A:Option Addr}{L:List XP}(h:kX w B (.slice A L.length cap) L)(hs:∀p∈L,XS w p)(hl:L.length<=60):XL w A L:=by
 refine⟨fun k hk=>?_,hs,hl⟩
 rcases h.shape with⟨_,rfl⟩|⟨g,cap2,e,_⟩
 ·exact absurd hk (by simp)
 ·simp only[Value.slice.injEq]at e
  obtain⟨rfl,-,rfl⟩:=e
  exact⟨g,0,rfl,kX.xc h k hk⟩
structure OSt(w5:World)(b q a:Nat)(vb u0 u1 v0 v1 v2 v3 v4 v5 v6 v7:Value)(w':World):Prop where
 q0:w'.cell? ⟨q,0,none⟩=some u0
 q1:w'.cell? ⟨q,1,none⟩=some u1
 cb:w'.cell? ⟨b,1,none⟩=some vb
 c0:w'.cell? ⟨a,0,none⟩=some v0
 c1:w'.cell? ⟨a,1,none⟩=some v1
 c2:w'.cell? ⟨a,2,none⟩=some v2
 c3:w'.cell? ⟨a,3,none⟩=some v3
 c4:w'.cell? ⟨a,4,none⟩=some v4
 c5:w'.cell? ⟨a,5,none⟩=some v5
 c6:w'.cell? ⟨a,6,none⟩=some v6
 c7:w'.cell? ⟨a,7,none⟩=some v7
 gr:w5.grownBy w' (some b)
theorem OSt.keep{w5 W w':World}{b q a:Nat}{r:Option Nat}{vb u0 u1 v0 v1 v2 v3 v4 v5 v6 v7:Value}(h:OSt w5 b q a vb u0 u1 v0 v1 v2 v3 v4 v5 v6 v7 W)(hg:W.grownBy w' r)(hr:∀x,r=some x->x≠b/\x≠q/\x≠a/\w5.heap.size<=x):OSt w5 b q a vb u0 u1 v0 v1 v2 v3 v4 v5 v6 v7 w':=by
 have hb:r≠some b:=fun e=>(hr _ e).1 rfl
 have hq:r≠some q:=fun e=>(hr _ e).2.1 rfl
 have ha:r≠some a:=fun e=>(hr _ e).2.2.1 rfl
 exact⟨aJ hg h.q0 hq,aJ hg h.q1 hq,aJ hg h.cb hb,aJ hg h.c0 ha,aJ hg h.c1 ha,aJ hg h.c2 ha,aJ hg h.c3 ha,aJ hg h.c4 ha,aJ hg h.c5 ha,aJ hg h.c6 ha,aJ hg h.c7 ha,mf h.gr hg (fun x e=>.inr (hr x e).2.2.2)⟩
theorem Rf(s:ByteArray)(w:World)(hs:s.size<=1000000)(hG:mg w):
  Calls prog 53 #[.string s] w fun e w'=>Zy (oF s.data.toList) w.heap.size e w'/\Below w.heap.size w w':=by
 have HRd:=Box.m (Hw s w hs hG)
 have hmx:=hG.mx
 have HMx:=Box.m hmx
 have hm0:=hmx.1
 obtain⟨O,HO⟩:∃O,Box (oF s.data.toList=O):=⟨_,⟨rfl⟩⟩
 rw[HO.o]
 clear hG hs hmx
 cases hR:gB s.data.toList with
 | error c=>
  have HO2:Box (O=.error c):=⟨by rw[<-HO.o];unfold oF;rw[hR]⟩
  rw[hR]at HRd
  clear HO hR HMx
  go_enter func53,ntmps53
  go_wp2_with fail
  refine HRd.o.mono ?_
  rintro e w1 ⟨he,hb1⟩
  have he:e=.returned (.tuple #[pG,.iface 25 (.int .i64 c)]):=he
  subst he
  have hbb:=hb1.trans ((aD w1 iP).mono hb1.size)
  clear HRd
  go_wp2
  go_ret2
  exact⟨by rw[HO2.o];rfl,hbb⟩
 | ok p=>
  have HdP:=Box.m (Yj _ _ hR)
  have HO1:Box (xm p=O):=⟨by rw[<-HO.o];unfold oF;rw[hR]⟩
  rw[hR]at HRd
  obtain⟨L,x,m0,ps⟩:=p
  have hpl:ps.length<=40:=HdP.o.2.2.2.1
  clear HO hR
  go_enter func53,ntmps53
  go_wp2_with fail
  refine HRd.o.mono ?_
  rintro e w1 ⟨⟨v,rfl,hPV⟩,hb1⟩
  have HPV:=Box.m hPV
  obtain⟨A2,c2,bb,lh,e1,e2,e3,e4,e5,-,-,-,-,-⟩:=hPV
  have hFL:=e4.fl
  have e4':=e4
  obtain⟨A1,c1,e6,-,-⟩:=e4
  obtain⟨v1,v2,v3,v4⟩:=v
  simp only at e1 e2 e3 e6 hFL e4'
  subst e1 e2 e3 e6
  have HLv:Box (LoS w.heap.size (.slice A1 lh.length c1)):=⟨fun A n c e b off e0 hn=>by
   simp only[Value.slice.injEq]at e
   obtain⟨rfl,rfl,-⟩:=e
   obtain⟨A',c',e',-,h'⟩:=e4'
   simp only[Value.slice.injEq]at e'
   obtain⟨rfl,-,rfl⟩:=e'
   obtain⟨b2,off2,e1,hS,_⟩:=h' 0 hn
   rw[e0]at e1
   simp only[Option.some.injEq,Addr.mk.injEq,and_true]at e1
   rw[e1.1]
   exact hS⟩
  clear e4'
  have HHd:=Box.m (XV lh L e5 HdP.o.1 HdP.o.2.1)
  subst e5
  unfold P4.v
  simp only
  have hbW1:=aD w1 (jr (.slice A1 lh.length c1) (.string bb) (.bool m0) (.slice A2 ps.length c2))
  have hgW1:=bG w1 (jr (.slice A1 lh.length c1) (.string bb) (.bool m0) (.slice A2 ps.length c2))
  obtain⟨d0,d1,d2,d3,df⟩:=ic hgW1
  have hb01:=hb1.trans (hbW1.mono hb1.size)
  have HM1:=Box.m (HMx.o.below hb01 hm0)
  have HF1:=Box.m (hFL.below hbW1 af)
  have HFL:=Box.m hFL
  have HKd:=Box.m (wQ _ lh _ HHd.o HF1.o HM1.o)
  clear HRd hFL HF1
  go_wp2_with fail
  refine HKd.o.mono ?_
  rintro e w2 ⟨⟨m,vq,Pm,rfl,hmn,hPm,hOQ,hHdP,hms⟩,hb2⟩
  have hgW2:=(hb2.block w1.heap.size (by simp)).trans hgW1
  have hb02:=hb01.trans (hb2.mono hb01.size)
  have hb12:=hbW1.trans (hb2.mono hbW1.size)
  have HOQ:=Box.m hOQ
  have HHP:=Box.m hHdP
  have HPm:=Box.m hPm
  obtain⟨Aq,cq,hvq⟩:∃Aq cq,vq=.slice Aq Pm.length cq:=by
   obtain⟨Aq,cq,e,_⟩:=hOQ.fl
   exact⟨Aq,cq,e⟩
  subst hvq
  clear HKd d0 d1 d2 d3 df hgW1 HM1 hOQ hHdP hPm hms hb2 hbW1
  obtain⟨d0,d1,d2,d3,df⟩:=ic hgW2
  by_cases he:m.toList=[109,117,108,116,105,112,97,114,116,47,114,101,108,97,116,101,100]
  case neg=>
   have hn:(m.toList==[109,117,108,116,105,112,97,114,116,47,114,101,108,97,116,101,100])=false:=beq_eq_false_iff_ne.2 he
   have HO2:Box (O=.error 6):=⟨by
    rw[<-HO1.o,xm,if_pos]
    rw[<-hmn,<-ByteArray.toList_eq]
    exact he⟩
   clear HO1 hmn he
   go_wp2
   go_ret2
   exact⟨by rw[HO2.o];rfl,hb02⟩
  have hrel:(iH (lh.map fl2)).1=Bp:=by
   rw[<-hmn,<-ByteArray.toList_eq,he]
   rfl
  clear hmn
  by_cases h0:ps.length=0
  ·have hz:((ps.length:Int)==0)=true:=by rw[h0];rfl
   have HO2:Box (O=.error 8):=⟨by
    rw[<-HO1.o,xm,if_neg (fun h=>h hrel),if_pos (List.eq_nil_of_length_eq_zero h0)]⟩
   clear HO1 hrel h0
   go_wp2
   go_ret2
   exact⟨by rw[HO2.o];rfl,hb02⟩
  have hz:((ps.length:Int)==0)=false:=beq_eq_false_iff_ne.2 (by omega)
  have HPV2:=Box.m (PV.abv (dM hb12) 4 _ _ HPV.o)
  have HAny:Box (Calls prog 98 #[.slice A2 ps.length c2,.func (.func 99) #[] #[]] w2 fun e w'=>e=.returned (.bool (ps.any rO))/\Below w2.heap.size w2 w'):=⟨by
   obtain⟨A',c',k1,k2,k3⟩:=YI HPV2.o
   simp only[Value.slice.injEq]at k1
   obtain⟨rfl,-,rfl⟩:=k1
   have:=WZ A2 c2 (ps.map rO) w2 k3 (by rw[GL];omega)
   rw[GL,List.any_map]at this
   exact this⟩
  go_wp2_with fail
  refine HAny.o.mono ?_
  rintro e w3 ⟨rfl,hb3⟩
  clear HAny
  cases hany:ps.any rO
  case true=>
   have HO2:Box (O=.error 13):=⟨by
    rw[<-HO1.o,xm,if_neg (fun h=>h hrel),if_neg (fun h=>h0 (by rw[h];rfl)),if_pos hany]⟩
   have hb03:=hb02.trans (hb3.mono hb02.size)
   clear HO1 hrel h0 hany
   go_wp2
   go_ret2
   exact⟨by rw[HO2.o];rfl,hb03⟩
  have HO2:Box (O=.ok ⟨lh.map fl2,ps.map (kV (dJ eZ (lh.map fl2))),oU (ps.map (kV (dJ eZ (lh.map fl2)))) (kE (Pm.map pb2))⟩):=⟨by
   rw[<-HO1.o,xm,if_neg (fun h=>h hrel),if_neg (fun h=>h0 (by rw[h];rfl)),if_neg (by rw[hany];decide),HPm.o]⟩
  have hb03:=hb02.trans (hb3.mono hb02.size)
  have hb13:=hb12.trans (hb3.mono hb12.size)
  have HPV3:=Box.m (PV.abv (dM hb3) 4 _ _ HPV2.o)
  have HFL3:=Box.m (HFL.o.below hb13 af)
  have HFQ3:=Box.m (HOQ.o.fl.below hb3 af)
  have hgW3:=(hb3.block w1.heap.size (Z8.1 hgW2).1).trans hgW2
  clear HO1 HPm hrel hany hz d0 d1 d2 d3 df hgW2 HPV HPV2 HFL HOQ hb12 hb02 hb01 hb3 he
  obtain⟨d0,d1,d2,d3,df⟩:=ic hgW3
  have hbW4:Below w3.heap.size w3 (w3.alloc (.cells #[.slice A1 lh.length c1,.slice none 0 0,.int .i64 0] 107)):=ag.alloc af _
  have hgB4:=aP w3 (.cells #[.slice A1 lh.length c1,.slice none 0 0,.int .i64 0] 107)
  have hgW4:=az hbW4 hgW3
  have hb04:=hb03.trans (hbW4.mono hb03.size)
  have HM4:=Box.m (HMx.o.below hb04 hm0)
  have HPl:=Box.m (zD (.slice A1 lh.length c1) lh zAV _ HHd.o (HFL3.o.below hbW4 af) HM4.o 60000 ⟨by decide,by decide,by decide,by decide,by decide⟩ (by omega) (by omega))
  obtain⟨f0,f1,f2,f3,ff⟩:=ic hgW4
  go_wp2_with fail
  refine HPl.o.mono ?_
  rintro e w4 ⟨rfl,hSm,hb4⟩
  have hBs:=nS (dJ zAV.ab (lh.map fl2))
  generalize AV.of (dJ zAV.ab (lh.map fl2))=B at hSm hBs ⊢
  obtain⟨x0,x1,x2,x3,x4,x5,x6,x7⟩:=B
  have HBs:Box (AV.ab ⟨x0,x1,x2,x3,x4,x5,x6,x7⟩=dJ eZ (lh.map fl2)):=⟨hBs⟩
  have HSm:=Box.m hSm
  have hbW5:Below w4.heap.size w4 (w4.alloc (ko x0 x1 x2 x3 x4 x5 x6 x7)):=ag.alloc af _
  have hgA5:=aP w4 (ko x0 x1 x2 x3 x4 x5 x6 x7)
  have hgB5:=az hbW5 (az hb4 hgB4)
  have hgW5:=az hbW5 (az hb4 hgW4)
  have hb34:Below w3.heap.size w3 w4:=hbW4.trans (hb4.mono hbW4.size)
  have hb35:=hb34.trans (hbW5.mono hb34.size)
  have hb05:=hb03.trans (hb35.mono hb03.size)
  have hba:w3.heap.size<w4.heap.size:=(Z8.1 (az hb4 hgB4)).1
  have haz:w4.heap.size<(w4.alloc (ko x0 x1 x2 x3 x4 x5 x6 x7)).heap.size:=by simp
  clear d0 d1 d2 d3 df f0 f1 f2 f3 ff hgW4 hgB4 hBs hSm HPl HM4 hb4 hbW4 hbW5 hb34 hgW3 hb04
  obtain⟨d0,d1,d2,d3,df⟩:=ic hgW5
  go_wp2
  have HA5:=Box.m (dU hgA5)
  have HB5:Box (BK _ w3.heap.size (.slice A1 lh.length c1) (.slice none 0 0) 0):=⟨hgB5⟩
  generalize w4.alloc (ko x0 x1 x2 x3 x4 x5 x6 x7)=w5 at *
  clear d0 d1 d2 d3 df hgW5 hgA5 hgB5
  have hb5:w3.heap.size<w5.heap.size:=by omega
  go_loopw [49] (fun i wr=>∃(j:Nat) (v:Value) (K:List XP),j<=ps.length/\i=.int .i64 j/\K.length=j/\Box (kX wr w5.heap.size v K)/\Box (K.map XP.bp=(ps.take j).map (kV (dJ eZ (lh.map fl2))))/\Box (∀p∈K,XS w3 p/\LoS w.heap.size p.hd)/\Box (BK wr w3.heap.size (.slice A1 lh.length c1) v 0)/\w5.grownBy wr (some w3.heap.size)) (fun i _=>ps.length - (intOf i).toNat)
  case atStart=>exact⟨0,.slice none 0 0,[],Z6 _,rfl,rfl,⟨kX.nil _ _⟩,⟨rfl⟩,⟨fun p hp=>by cases hp⟩,HB5,ak ag _⟩
  case round=>
   obtain⟨j,v,K,hj,rfl,hKj,HOx,HV,HXS,HBK,hg⟩:=hrel
   have hb5r:Below w3.heap.size w5 wr:=iX hg af hb5
   have hb3r:=hb35.trans hb5r
   have HKj:=Box.m hKj
   have hK60:K.length<=60:=by omega
   clear hKj
   by_cases hlt:j<ps.length
   ·obtain⟨g,off,A6,c6,bk,mk,A7,n7,c7,lk,eA,k0,k1,k2,k3,hFk,hHk,hbk,hpk,hLk⟩:=VR HPV3.o HdP.o rfl j hlt
    have HLk:Box (LoS w.heap.size (.slice A6 lk.length c6)):=⟨fun A n c e b off e0 hn=>by
     simp only[Value.slice.injEq]at e
     obtain⟨rfl,rfl,-⟩:=e
     exact hLk b off e0 hn⟩
    clear hLk
    subst eA
    have HV2:Box ((ps.take (j+1)).map (kV (dJ eZ (lh.map fl2)))=(ps.take j).map (kV (dJ eZ (lh.map fl2)))++[⟨lk.map fl2,bk.data.toList,Bg (jG (lk.map fl2) ciN),dJ (dJ eZ (lh.map fl2)) (lk.map fl2)⟩]):=⟨by
     rw[ZX,ZY hlt,VQ,<-hpk]
     rfl⟩
    have hc0:=(hb3r.cell (p:=⟨g,off+j*4,none⟩) (aaa w3 _ k0)).trans k0
    have hc1:=(hb3r.cell (p:=⟨g,off+j*4+1,none⟩) (aaa w3 _ k1)).trans k1
    have hc2:=(hb3r.cell (p:=⟨g,off+j*4+2,none⟩) (aaa w3 _ k2)).trans k2
    have hc3:=(hb3r.cell (p:=⟨g,off+j*4+3,none⟩) (aaa w3 _ k3)).trans k3
    clear k0 k1 k2 k3 hpk
    have HHk:=Box.m hHk
    have HFk:=Box.m hFk
    have HId:Box (∀w',w5.grownBy w' (some w3.heap.size)->Calls prog 101 #[.slice A6 lk.length c6] w' fun e w''=>∃t:ByteArray,e=.returned (.string t)/\t.data.toList=Bg (jG (lk.map fl2) ciN)/\t.size<=60000/\Below w'.heap.size w' w''):=⟨fun w' hg'=>TM _ lk w' hHk (hFk.below (hb35.trans (iX hg' af hb5)) af)⟩
    have HPc:Box (∀w',w5.grownBy w' (some w3.heap.size)->Calls prog 100 #[.slice A6 lk.length c6,.agg #[.string x0,.bool x1,.string x2,.string x3,.bool x4,.string x5,.bool x6,.string x7]] w' fun e w''=>e=.returned (AV.of (dJ (dJ eZ (lh.map fl2)) (lk.map fl2))).val/\(AV.of (dJ (dJ eZ (lh.map fl2)) (lk.map fl2))).Small 270000/\Below w'.heap.size w' w''):=⟨fun w' hg'=>by
     have hbw:=hb35.trans (iX hg' af hb5)
     have h1:=zD (.slice A6 lk.length c6) lk ⟨x0,x1,x2,x3,x4,x5,x6,x7⟩ w' hHk (hFk.below hbw af) (HMx.o.below (hb03.trans (hbw.mono hb03.size)) hm0) 120001 HSm.o (by omega) (by omega)
     rw[HBs.o]at h1
     refine h1.mono ?_
     rintro e w'' ⟨rfl,h2,h3⟩
     exact⟨rfl,⟨Z0 h2.sc (by omega),Z0 h2.au (by omega),Z0 h2.pa (by omega),Z0 h2.qu (by omega),Z0 h2.fr (by omega)⟩,h3⟩⟩
    have hLs:=nS (dJ (dJ eZ (lh.map fl2)) (lk.map fl2))
    generalize AV.of (dJ (dJ eZ (lh.map fl2)) (lk.map fl2))=Z at hLs HPc
    obtain⟨y0,y1,y2,y3,y4,y5,y6,y7⟩:=Z
    have HLs:=Box.m hLs
    clear hLs hFk hHk
    obtain⟨Av,cv,hv,hcv⟩:=HOx.o.len
    subst hv
    have hbW:=aD wr (jr (.slice A6 lk.length c6) (.string bk) (.bool mk) (.slice A7 n7 c7))
    obtain⟨p0,p1,p2,p3,pf⟩:=ic (bG wr (jr (.slice A6 lk.length c6) (.string bk) (.bool mk) (.slice A7 n7 c7)))
    have hWg:w5.grownBy (wr.alloc (jr (.slice A6 lk.length c6) (.string bk) (.bool mk) (.slice A7 n7 c7))) (some w3.heap.size):=mf hg (ak hbW none) (by simp)
    have HBW:=Box.m (HBK.o.gr (ak hbW none) (by simp))
    have HOW:Box (kX (wr.alloc (jr (.slice A6 lk.length c6) (.string bk) (.bool mk) (.slice A7 n7 c7))) w5.heap.size (.slice Av K.length cv) K):=⟨World.ownsRow.alloc HOx.o _⟩
    obtain⟨a0,a1,a2,a3,a4,a5,a6,a7,-⟩:=(Blk.gr HA5.o hWg (by simp;omega))
    obtain⟨-,cb1,-,cbf,cbl⟩:=HBW.o.cells
    have HR3:Box (∀x,wr.heap.size<=x->(Value.slice Av K.length cv).ownBlock≠some x):=⟨fun x hx e=>by have:=(World.ownsRow.lt HOx.o x e).2;omega⟩
    have HC3:Box (∀x,(Value.slice Av K.length cv).ownBlock=some x->w5.heap.size<=x):=⟨fun x e=>(World.ownsRow.lt HOx.o x e).1⟩
    have k7:(j:Int)<(ps.length:Int):=by omega
    have k8:(0:Int)<=(j:Int):=by omega
    have hsr:=hg.size
    clear HOx HBK
    go_wp2_with fail
    have hszW:wr.heap.size<(wr.alloc (jr (.slice A6 lk.length c6) (.string bk) (.bool mk) (.slice A7 n7 c7))).heap.size:=by simp
    generalize wr.alloc (jr (.slice A6 lk.length c6) (.string bk) (.bool mk) (.slice A7 n7 c7))=W at p0 p1 p2 p3 pf hWg HBW HOW a0 a1 a2 a3 a4 a5 a6 a7 cb1 cbf cbl hbW hszW ⊢
    have hK1:K.length+1<=1000000:=by omega
    have nq:w3.heap.size≠wr.heap.size:=by omega
    have na:w3.heap.size≠w4.heap.size:=by omega
    clear hc0 hc1 hc2 hc3 p2 p3 pf hbW
    refine fC 21 (OSt w5 w3.heap.size wr.heap.size w4.heap.size (.slice Av K.length cv) (.slice A6 lk.length c6) (.string bk) (.string x0) (.bool x1) (.string x2) (.string x3) (.bool x4) (.string x5) (.bool x6) (.string x7)) (by kernel_rfl) ?_
    have hS:OSt w5 w3.heap.size wr.heap.size w4.heap.size (.slice Av K.length cv) (.slice A6 lk.length c6) (.string bk) (.string x0) (.bool x1) (.string x2) (.string x3) (.bool x4) (.string x5) (.bool x6) (.string x7) W.drew:=⟨p0,p1,cb1,a0,a1,a2,a3,a4,a5,a6,a7,mf hWg (ak ag.drew none) (by simp)⟩
    clear p0 p1 cb1 a0 a1 a2 a3 a4 a5 a6 a7
    refine aj (i:=0) (n:=53) (.pointer (some ⟨w3.heap.size,0,none⟩)) rfl rfl (by kernel_rfl) (by kernel_rfl) (by kernel_rfl) (by kernel_rfl) (fun _ _ _ h=>h) rfl (fun w' hS'=>?_) hS ?_
    ·clear hS' hS
     go_simp<;>with_reducible rfl
    simp only[Act.put,aH,aG,aI]
    refine aj (i:=1) (n:=54) (.pointer (some ⟨w3.heap.size,0,none⟩)) rfl rfl (by kernel_rfl) (by kernel_rfl) (by kernel_rfl) (by kernel_rfl) (fun _ _ _ h=>h) rfl (fun w' hS'=>?_) hS ?_
    ·clear hS' hS
     go_simp<;>with_reducible rfl
    simp only[Act.put,aH,aG,aI]
    refine aj (i:=2) (n:=55) (.pointer (some ⟨w3.heap.size,0,none⟩)) rfl rfl (by kernel_rfl) (by kernel_rfl) (by kernel_rfl) (by kernel_rfl) (fun _ _ _ h=>h) rfl (fun w' hS'=>?_) hS ?_
    ·clear hS' hS
     go_simp<;>with_reducible rfl
    simp only[Act.put,aH,aG,aI]
    refine aj (i:=3) (n:=56) (.pointer (some ⟨w3.heap.size,1,none⟩)) rfl rfl (by kernel_rfl) (by kernel_rfl) (by kernel_rfl) (by kernel_rfl) (fun _ _ _ h=>h) rfl (fun w' hS'=>?_) hS ?_
    ·clear hS' hS
     go_simp<;>with_reducible rfl
    simp only[Act.put,aH,aG,aI]
    refine aj (i:=4) (n:=57) (.slice Av K.length cv) rfl rfl (by kernel_rfl) (by kernel_rfl) (by kernel_rfl) (by kernel_rfl) (fun _ _ _ h=>h) rfl (fun w' hS'=>?_) hS ?_
    ·have l0:=hS'.cb
     clear hS' hS
     go_simp<;>with_reducible rfl
    simp only[Act.put,aH,aG,aI]
    refine aj (i:=5) (n:=58) (.pointer (some ⟨wr.heap.size,0,none⟩)) rfl rfl (by kernel_rfl) (by kernel_rfl) (by kernel_rfl) (by kernel_rfl) (fun _ _ _ h=>h) rfl (fun w' hS'=>?_) hS ?_
    ·clear hS' hS
     go_simp<;>with_reducible rfl
    simp only[Act.put,aH,aG,aI]
    refine aj (i:=6) (n:=59) (.slice A6 lk.length c6) rfl rfl (by kernel_rfl) (by kernel_rfl) (by kernel_rfl) (by kernel_rfl) (fun _ _ _ h=>h) rfl (fun w' hS'=>?_) hS ?_
    ·have l0:=hS'.q0
     clear hS' hS
     go_simp<;>with_reducible rfl
    simp only[Act.put,aH,aG,aI]
    refine aj (i:=7) (n:=60) (.pointer (some ⟨wr.heap.size,1,none⟩)) rfl rfl (by kernel_rfl) (by kernel_rfl) (by kernel_rfl) (by kernel_rfl) (fun _ _ _ h=>h) rfl (fun w' hS'=>?_) hS ?_
    ·clear hS' hS
     go_simp<;>with_reducible rfl
    simp only[Act.put,aH,aG,aI]
    refine aj (i:=8) (n:=61) (.string bk) rfl rfl (by kernel_rfl) (by kernel_rfl) (by kernel_rfl) (by kernel_rfl) (fun _ _ _ h=>h) rfl (fun w' hS'=>?_) hS ?_
    ·have l0:=hS'.q1
     clear hS' hS
     go_simp<;>with_reducible rfl
    simp only[Act.put,aH,aG,aI]
    refine aj (i:=9) (n:=62) (.pointer (some ⟨wr.heap.size,0,none⟩)) rfl rfl (by kernel_rfl) (by kernel_rfl) (by kernel_rfl) (by kernel_rfl) (fun _ _ _ h=>h) rfl (fun w' hS'=>?_) hS ?_
    ·clear hS' hS
     go_simp<;>with_reducible rfl
    simp only[Act.put,aH,aG,aI]
    refine aj (i:=10) (n:=63) (.slice A6 lk.length c6) rfl rfl (by kernel_rfl) (by kernel_rfl) (by kernel_rfl) (by kernel_rfl) (fun _ _ _ h=>h) rfl (fun w' hS'=>?_) hS ?_
    ·have l0:=hS'.q0
     clear hS' hS
     go_simp<;>with_reducible rfl
    simp only[Act.put,aH,aG,aI]
    refine aj (i:=12) (n:=65) (.pointer (some ⟨wr.heap.size,0,none⟩)) rfl rfl (by kernel_rfl) (by kernel_rfl) (by kernel_rfl) (by kernel_rfl) (fun _ _ _ h=>h) rfl (fun w' hS'=>?_) hS ?_
    ·clear hS' hS
     go_simp<;>with_reducible rfl
    simp only[Act.put,aH,aG,aI]
    refine aj (i:=13) (n:=66) (.slice A6 lk.length c6) rfl rfl (by kernel_rfl) (by kernel_rfl) (by kernel_rfl) (by kernel_rfl) (fun _ _ _ h=>h) rfl (fun w' hS'=>?_) hS ?_
    ·have l0:=hS'.q0
     clear hS' hS
     go_simp<;>with_reducible rfl
    simp only[Act.put,aH,aG,aI]
    refine aj (i:=14) (n:=67) (.agg #[.string x0,.bool x1,.string x2,.string x3,.bool x4,.string x5,.bool x6,.string x7]) rfl rfl (by kernel_rfl) (by kernel_rfl) (by kernel_rfl) (by kernel_rfl) (fun _ _ _ h=>h) rfl (fun w' hS'=>?_) hS ?_
    ·have l0:=hS'.c0
     have l1:=hS'.c1
     have l2:=hS'.c2
     have l3:=hS'.c3
     have l4:=hS'.c4
     have l5:=hS'.c5
     have l6:=hS'.c6
     have l7:=hS'.c7
     clear hS' hS
     go_simp<;>with_reducible rfl
    simp only[Act.put,aH,aG,aI]
    refine ai (i:=11) (by kernel_rfl) rfl (fun K' hK=>?_)
    rw[if_pos (by rfl)]
    go_wp2_with (go_at_call 101;refine(HId.o _ hS.gr).mono ?_;rintro e w6 ⟨it,rfl,hit,hits,hb6⟩)
    refine hK.out _ _ (fun _=>hS.keep (ak hb6 none) (by simp)) ?_
    have hS:=hS.keep (ak hb6 none) (by simp)
    clear hK
    refine ai (i:=15) (by kernel_rfl) rfl (fun K' hK=>?_)
    rw[if_pos (by rfl)]
    go_wp2_with (go_at_call 100;refine(HPc.o _ hS.gr).mono ?_;rintro e w7 ⟨rfl,hsm7,hb7⟩)
    refine hK.out _ _ (fun _=>hS.keep (ak hb7 none) (by simp)) ?_
    have hS:=hS.keep (ak hb7 none) (by simp)
    clear hK
    refine aj (i:=16) (n:=69) (.agg #[.slice A6 lk.length c6,.string bk,.string it,.string y0,.bool y1,.string y2,.string y3,.bool y4,.string y5,.bool y6,.string y7]) rfl rfl (by kernel_rfl) (by kernel_rfl) (by kernel_rfl) (by kernel_rfl) (fun _ _ _ h=>h) rfl (fun w' hS'=>?_) hS ?_
    ·clear hS' hS
     go_simp<;>with_reducible rfl
    simp only[Act.put,aH,aG,aI]
    refine ai (i:=17) (by kernel_rfl) rfl (fun K' hK=>?_)
    rw[if_pos (by rfl)]
    go_wp2
    refine hK.out _ _ (fun _=>hS.keep (ak (ag.alloc af _) none) (by simp)) ?_
    have hS:=hS.keep (ak ((Below.refl w7.heap.size w7).alloc af (fq ⟨.slice A6 lk.length c6,lk,bk,it,⟨y0,y1,y2,y3,y4,y5,y6,y7⟩⟩)) none) (by simp)
    clear hK
    refine ai (i:=18) (by kernel_rfl) rfl (fun K' hK=>?_)
    refine Rj _ (by rfl) (.tmp 57) (.tmp 70) (by rfl) w5.heap.size (.slice Av K.length cv) K (by rfl) (World.ownsRow.alloc (kX.below HOW.o ((Below.refl W.heap.size W).drew.trans (hb6.trans (hb7.mono hb6.size))) af) _) _ _ ⟨.slice A6 lk.length c6,lk,bk,it,⟨y0,y1,y2,y3,y4,y5,y6,y7⟩⟩ (by rfl) (uh (aP w7 (fq ⟨.slice A6 lk.length c6,lk,bk,it,⟨y0,y1,y2,y3,y4,y5,y6,y7⟩⟩))) rfl hK1 (by have:=hb6.size;have:=hb7.size;have:=hWg.size;simp at *;omega) ?_
    intro v8 w8 hO8 hg8 hk8
    have hS8:=hS.keep hg8 (fun x e=>⟨fun e2=>by have:=HC3.o _ e;omega,fun e2=>HR3.o _ (Nat.le_of_eq e2.symm) e,fun e2=>by have:=HC3.o _ e;omega,HC3.o _ e⟩)
    refine hK.out _ _ (fun _=>hS8) ?_
    have hB8:BK w8 w3.heap.size (.slice A1 lh.length c1) (.slice Av K.length cv) 0:=BK.gr (BK.gr (BK.gr (BK.gr HBW.o (ak (Below.refl W.heap.size W).drew none) (by simp)) (ak hb6 none) (by simp)) (ak hb7 none) (by simp)) (aO (ak (aD w7 _) _) hg8) (fun e=>by have:=HC3.o _ e.symm;omega)
    obtain⟨A8,n8,c8,hv8⟩:∃A8 n8 c8,v8=.slice A8 n8 c8:=by
     obtain⟨A8,c8,e8,_⟩:=hO8.len
     exact⟨A8,_,c8,e8⟩
    subst hv8
    clear hS hK hk8 hg8
    have hS:=hS8
    change eT _ _ _ _ _ _ _ _ (Act.put _ (some 71) _) _
    simp only[Act.put,aH,aG,aI]
    refine ai (i:=19) (by kernel_rfl) rfl (fun K' hK=>?_)
    rw[if_pos (by rfl)]
    go_wp2
    refine hK.out _ _ (fun _=>hS) ?_
    clear hK
    refine aj (i:=20) (n:=73) (.pointer (some ⟨w3.heap.size,1,none⟩)) rfl rfl (by kernel_rfl) (by kernel_rfl) (by kernel_rfl) (by kernel_rfl) (fun _ _ _ h=>h) rfl (fun w' hS'=>?_) hS ?_
    ·clear hS' hS
     go_simp<;>with_reducible rfl
    simp only[Act.put,aH,aG,aI]
    have HO8:=Box.m hO8
    have HB8:=Box.m hB8
    obtain⟨-,cb8,-,cf8,cl8⟩:=hB8.cells
    have hgS:=hS.gr
    clear hO8 hB8 hS8 hS
    refine ai (i:=21) (by kernel_rfl) rfl (fun K' hK=>?_)
    rw[if_pos (by rfl)]
    go_wp2
    refine hK.out _ _ (fun h=>absurd rfl h) ?_
    clear hK
    refine ja (by kernel_rfl) ?_ _
    have hg9:=iT w8 w3.heap.size 1 (.slice A8 n8 c8)
    have HO9:=Box.m (kX.kept HO8.o hg9 hb5)
    have HB9:=Box.m (HB8.o.setP (.slice A8 n8 c8))
    have hgE:=mf hgS hg9 (fun x e=>.inl (Option.some.inj e).symm)
    go_wp2
    go_roundw
    case rel=>
     refine⟨j+1,_,K++[⟨.slice A6 lk.length c6,lk,bk,it,⟨y0,y1,y2,y3,y4,y5,y6,y7⟩⟩],by omega,by go_num,by rw[ZV,HKj.o];rfl,HO9,⟨?_⟩,⟨fun p hp=>?_⟩,HB9,hgE⟩
     ·rw[VQ,HV.o,HV2.o,<-hit,<-HLs.o]
      rfl
     ·rcases List.mem_append.1 hp with hp|hp
      ·exact HXS.o p hp
      ·rw[ZZ.1 hp]
       exact⟨⟨HFk.o,HHk.o,by show bk.size<=_;omega,hits,hsm7⟩,HLk.o⟩
    case measure=>simp[intOf];omega
   ·have hjl:j=ps.length:=by omega
    subst hjl
    have HV3:Box (K.map XP.bp=ps.map (kV (dJ eZ (lh.map fl2)))):=⟨by rw[HV.o,Xu af]⟩
    obtain⟨Av,cv,hv,hcv⟩:=HOx.o.len
    subst hv
    have hKl:=hK60
    have HRo:=Box.m (M6 Av cv K (.slice Aq Pm.length cq) Pm wr (Uh HOx.o (fun p hp=>(HXS.o p hp).1.below hb3r) hKl) HHP.o (HFQ3.o.below hb3r af))
    obtain⟨-,cb1,-,cbf,cbl⟩:=HBK.o.cells
    have hkk:¬((ps.length:Int)<(ps.length:Int)):=by omega
    go_wp2_with fail
    refine HRo.o.mono ?_
    rintro e w9 ⟨rfl,hb9⟩
    have HB9:=Box.m (HBK.o.gr (ak hb9 none) (by simp))
    obtain⟨-,cb9,cr9,cf9,cl9⟩:=HB9.o.cells
    have hrt:oU (K.map XP.bp) (kE (Pm.map pb2))<K.length:=by
     have:=KU (K.map XP.bp) (kE (Pm.map pb2)) (by intro e;have:=congrArg List.length e;rw[GL]at this;simp at this;have h2:=HKj.o;rw[this]at h2;simp at h2;omega)
     rwa[GL]at this
    clear HRo
    go_wp2
    go_ret2
    have hgE:=iT w9 w3.heap.size 2 (.int .i64 (oU (K.map XP.bp) (kE (Pm.map pb2)):Int))
    have hbE:Below w3.heap.size w3 (w9.setCell ⟨w3.heap.size,2,none⟩ (.int .i64 (oU (K.map XP.bp) (kE (Pm.map pb2)):Int))):=(hb3r.trans (hb9.mono hb3r.size)).setCell af _
    have hOE:kX (w9.setCell ⟨w3.heap.size,2,none⟩ (.int .i64 (oU (K.map XP.bp) (kE (Pm.map pb2)):Int))) w5.heap.size (.slice Av K.length cv) K:=kX.kept (kX.below HOx.o hb9 af) hgE hb5
    obtain⟨z0,z1,z2,-,-⟩:=(HB9.o.setR (oU (K.map XP.bp) (kE (Pm.map pb2)):Int)).cells
    refine⟨?_,hb03.trans (hbE.mono hb03.size)⟩
    rw[HO2.o]
    exact⟨w3.heap.size,.slice A1 lh.length c1,lh,Av,cv,K,oU (K.map XP.bp) (kE (Pm.map pb2)),rfl,⟨z0,z1,z2,hcv,HFL3.o.below hbE af,HHd.o,Uh hOE (fun p hp=>(HXS.o p hp).1.below hbE) hKl,hrt⟩,by rw[HV3.o],hb03.size,HLv.o,fun g off e=>by
     rcases hOE.shape with⟨h',_⟩|⟨g',cap',h',hg',_⟩
     ·simp only[Value.slice.injEq]at h'
      rw[h'.1]at e
      cases e
     ·simp only[Value.slice.injEq]at h'
      rw[h'.1]at e
      simp only[Option.some.injEq,Addr.mk.injEq,and_true]at e
      have:=hb03.size
      omega,fun p hp=>(HXS.o p hp).2⟩
end Go.Proofs.YtkldkhdigkpniaaGreatDoor
