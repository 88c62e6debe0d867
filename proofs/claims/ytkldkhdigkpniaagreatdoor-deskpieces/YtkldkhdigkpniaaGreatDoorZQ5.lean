import Derived.Test.YtkldkhdigkpniaaGreatDoorZ42
import Derived.Test.YtkldkhdigkpniaaGreatDoorZ39
set_option maxHeartbeats 1000000
set_option maxRecDepth 100000
open List renaming length_append → GL, map_id' → VQ, flatten_append → Ws, length_map → Xu, flatten_cons → ZV, getElem_mem → ZW, length_mapIdx → ZX
namespace Go.Proofs.YtkldkhdigkpniaaGreatDoor
open Go.RowKit Go.Proofs.Px Go.Proofs.Tryz
theorem Kk(M:List Fl)(L:List PB)(h:M.map fl2=L)(h1:L.length<=3000)(h2:∀f∈L,f.1.length<=8000/\f.2.length<=8000):uW M:=by
 subst h
 rw[Xu]at h1
 refine⟨by omega,fun f hf=>?_⟩
 have h3:=h2 (fl2 f) (List.mem_map_of_mem hf)
 have e1:(fl2 f).1.length=f.1.size:=ae f.1
 have e2:(fl2 f).2.length=f.2.size:=ae f.2
 omega
theorem Ov(L:List PB):((L.map (·.2)).map fun x:aa=>x).flatten.length<=hsz L:=by
 rw[VQ]
 induction L with
 | nil=>simp
 | cons f L ih=>
  rw[List.map_cons,ZV,GL,fB]
  omega
theorem Im(b:BB)(h:xB b):(lq b).flatten.length<9000000:=by
 have hl:∀(ps:List BP),(∀p∈ps,HdB p.head/\aS p.head=.ok none/\p.body.length<=3000)->(ps.flatMap fun p=>p.head.map (·.2)++[p.body]).flatten.length<=12000*ps.length:=by
  intro ps
  induction ps with
  | nil=>intro _;simp
  | cons p ps ih=>
   intro hp
   have h1:=ih (fun q hq=>hp q (by simp[hq]))
   obtain⟨h2,_,h3⟩:=hp p (by simp)
   have h4:=Ov p.head
   rw[VQ]at h4
   have h5:=h2.sz
   rw[List.flatMap_cons,Ws,Ws,GL,GL,List.length_cons]
   simp only[ZV,List.flatten_nil,List.append_nil]
   omega
 have h1:=hl b.ps h.ps
 have h2:=Ov b.head
 rw[VQ]at h2
 have h3:=h.hd.sz
 have h4:=h.n
 unfold lq
 rw[Ws,GL]
 omega
theorem XZ{w1 w':World}{p r:Addr}{x y:Value}(h0:w1.cell? p=some x)(h1:w1.cell? r=some y)(hb:Below w1.heap.size w1 w'):w'.cell? p=some x/\w'.cell? r=some y/\Below w1.heap.size w1 w':=
 ⟨(hb.cell (p:=p) (World.block_lt_of_cell? w1 _ h0)).trans h0,(hb.cell (p:=r) (World.block_lt_of_cell? w1 _ h1)).trans h1,hb⟩
structure BSt(w4:World)(c q:Nat)(v u0:Value)(w':World):Prop where
 q0:w'.cell? ⟨q,0,none⟩=some u0
 cb:w'.cell? ⟨c,3,none⟩=some v
 gr:w4.grownBy w' (some c)
theorem BSt.keep{w4 W w':World}{c q:Nat}{r:Option Nat}{v u0:Value}(h:BSt w4 c q v u0 W)(hg:W.grownBy w' r)(hr:∀x,r=some x->x≠c/\x≠q/\w4.heap.size<=x):BSt w4 c q v u0 w':=by
 have hb:r≠some c:=fun e=>(hr _ e).1 rfl
 have hq:r≠some q:=fun e=>(hr _ e).2.1 rfl
 exact⟨aJ hg h.q0 hq,aJ hg h.cb hb,mf h.gr hg (fun x e=>.inr (hr x e).2.2)⟩
def PB4(w:World)(c:Nat)(u0 u1 u2 u3:Value):Prop:=w.heap[c]?=some (.cells #[u0,u1,u2,u3] 92 (0,0))
theorem PB4.set{w:World}{c:Nat}{u0 u1 u2 u3:Value}(h:PB4 w c u0 u1 u2 u3)(v:Value):PB4 (w.setCell ⟨c,3,none⟩ v) c u0 u1 u2 v:=by
 unfold PB4
 rw[setCell_eq_setRow w c 3 _ _ _ _ h]
 exact setRow_heap w c _ _ _ _ h
theorem PB4.gr{w w':World}{c:Nat}{u0 u1 u2 u3:Value}{o:Option Nat}(h:PB4 w c u0 u1 u2 u3)(hg:w.grownBy w' o)(ho:some c≠o):PB4 w' c u0 u1 u2 u3:=(hg.block c (Array.getElem?_eq_some_iff.1 h).1 ho).trans h
theorem fD.len{w:World}{B:Nat}{v:Value}{L:List P4}(h:fD w B v L):∃A cap,v=.slice A L.length cap:=by
 obtain⟨A,cap,e,_⟩:=h.pc
 exact⟨A,cap,e⟩
theorem fD.kept{w w':World}{B b:Nat}{v:Value}{L:List P4}(h:fD w B v L)(hg:w.grownBy w' (some b))(hb:b<B):fD w' B v L:=by
 refine World.ownsRow.kept h hg (.inr fun e=>?_)
 have:=(World.ownsRow.lt h b e).1
 omega
theorem Qv{w:World}{b:Nat}{hv:Value}{hl:List Fl}{A:Option Addr}{cap:Nat}{ps:List XP}{root:Nat}(h:BN w b hv hl A cap ps root)(bb:BB)(hbb:bb=⟨hl.map fl2,ps.map XP.bp,root⟩)(hF:xB bb)(hG:mg w)(hP:PGB w w.heap.size)(hT:Tab w):
  Calls prog 43 #[.pointer (some ⟨b,0,none⟩)] w fun e w'=>∃k,UC (sw (dY 4 0 (nu bb k))) e/\(∀t∈lq bb,vH (gZ k) t)/\(∀j,fw (lq bb) j=false->k<=j)/\Below w.heap.size w w':=by
 have htx:lq bb=(hl.map (·.2)++eP ps ps.length).map lst:=by rw[hbb];exact Qb hl ps root
 have HFm:=Box.m (G6 h hG.mx hT (by rw[<-htx];exact Im bb hF))
 have HTx:=Box.m htx
 have HB:=Box.m h
 have HBB:=Box.m hbb
 have HFi:=Box.m hF
 have HG:=Box.m hG
 have hgb:=hG.gb
 have HP:=Box.m hP
 have HT:=Box.m hT
 have htl:=hT.lt
 have hpl:ps.length<=60:=h.xl.len
 have hrt:=h.rt
 have hr60:root<=60:=by omega
 clear h hG hP hT hF hbb htx
 go_enter func43,ntmps43
 go_wp2_with fail
 refine HFm.o.mono ?_
 rintro e w1 ⟨m,k,rfl,hmk,hms,hap,hmin,hb1⟩
 have HMk:=Box.m hmk
 have hkl:(gZ k).length<=12:=by rw[<-hmk,ae];exact hms
 have HAp:Box (∀t∈lq bb,vH (gZ k) t):=⟨fun t ht=>by
  rw[HTx.o]at ht
  obtain⟨x,hx,rfl⟩:=List.mem_map.1 ht
  exact hap x hx⟩
 have HMi:Box (∀j,fw (lq bb) j=false->k<=j):=⟨by rw[HTx.o];exact hmin⟩
 have HSm:=Box.m (M9 bb HFi.o k hkl)
 have HKl:=Box.m hkl
 clear HFm hmk hap hmin hkl HTx
 -- the whole's head
 obtain⟨q,hq⟩:∃q,eO (jG (hl.map fl2) ctN)=some q:=by
  have hr:=HFi.o.op.rel
  rw[HBB.o]at hr
  obtain⟨f,ps',g1,g2,g3⟩:=E8 _ Bp TB hr
  refine⟨(Bp,ps'),?_⟩
  unfold jG
  simp only at g1
  rw[g1]
  exact g2
 have hsl:(jG (hl.map fl2) ctN).length<=20000:=by
  unfold jG
  cases hg:vg (hl.map fl2) ctN with
  | none=>simp
  | some f=>
   have:=HFi.o.hd.fs f (by rw[HBB.o];exact List.mem_of_find?_eq_some hg)
   simp only[Option.map_some,Option.getD_some]
   omega
 have HNi:Box (∀w',Below w1.heap.size w1 w'->Calls prog 72 #[.int .i64 (root:Int),.string m] w' fun e w''=>∃t:ByteArray,e=.returned (.string t)/\t.data.toList=fA root k/\t.size<=26/\Below w'.heap.size w' w''):=⟨fun w' hb'=>by
  refine(yC root m w' (by omega) (by omega) ((HT.o.below hb1 htl).below hb' (HT.o.below hb1 htl).lt)).mono ?_
  rintro e w'' ⟨t,rfl,h1,h2,h3⟩
  exact⟨t,rfl,by rw[h1,HMk.o];rfl,by omega,h3⟩⟩
 have HWs:Box (∀w' (id:ByteArray),id.data.toList=fA root k->id.size<=26->Below w1.heap.size w1 w'->Calls prog 71 #[hv,.string id] w' fun e w''=>∃u M,e=.returned (.tuple #[u,.nilIface])/\bJ w'' w'.heap.size u M/\M.map fl2=j4 (hl.map fl2) (fA root k)/\Below w'.heap.size w' w''):=⟨fun w' id hid hids hb'=>by
  have hbw:=hb1.trans (hb'.mono hb1.size)
  have hBw:=HB.o.below hbw
  refine(ED hv hl id w' q hBw.hs hBw.hf (HG.o.mx.below hbw hgb.g0) hq hsl (by omega) (by rw[hid];exact Sj root k)).mono ?_
  rintro e w'' ⟨u,M,rfl,h1,h2,_,h4⟩
  exact⟨u,M,rfl,h1,by rw[h2,hid],h4⟩⟩
 have HB1:=Box.m (HB.o.below hb1)
 obtain⟨b0,b1,b2,-,⟨AH,cH,hvv,-⟩,-,-,-⟩:=HB1.o
 subst hvv
 clear hq hsl
 go_wp2_with fail
 go_region_held3 (fun w'=>w'.cell? ⟨b,0,none⟩=some (.slice AH hl.length cH)/\w'.cell? ⟨b,2,none⟩=some (.int .i64 (root:Int))/\Below w1.heap.size w1 w')
  ((go_split_ands;first
   | exact⟨b0,b2,ag.drew⟩
   | exact XZ b0 b2 hbA
   | exact XZ b0 b2 hbB))
  (first
   | (go_at_call 72;refine(HNi.o _ (by exact(Below.refl w1.heap.size w1).drew)).mono ?_;rintro e w2 ⟨id,rfl,hid,hids,hb2⟩;have hbA:Below w1.heap.size w1 w2:=(Below.refl w1.heap.size w1).drew.trans hb2)
   | (go_at_call 71;refine(HWs.o _ id hid hids (by exact hbA)).mono ?_;rintro e w3 ⟨u,M,rfl,hOM,hM,hb3⟩;have hbB:Below w1.heap.size w1 w3:=hbA.trans (hb3.mono hbA.size);obtain⟨AM,cM,rfl,-⟩:=pM hOM)
   | fail)
 go_split_ands
 have hb03:=hb1.trans (hbB.mono hb1.size)
 have hO3:=Da hOM (Nat.le_trans hb1.size hbA.size)
 have HO3:Box (bJ w3 w.heap.size (.slice AM M.length cM) M):=⟨hO3⟩
 have HM3:=Box.m hM
 clear HNi HWs hOM hO3 hM hid hids hb2 hb3 hbA
 have hbW4:Below w3.heap.size w3 (w3.alloc (jr (.slice AM M.length cM) (.string ⟨#[]⟩) (.bool true) (.slice none 0 0))):=ag.alloc af _
 have HC4:Box (PB4 (w3.alloc (jr (.slice AM M.length cM) (.string ⟨#[]⟩) (.bool true) (.slice none 0 0))) w3.heap.size (.slice AM M.length cM) (.string ⟨#[]⟩) (.bool true) (.slice none 0 0)):=⟨aP w3 _⟩
 have hsz4:w3.heap.size<(w3.alloc (jr (.slice AM M.length cM) (.string ⟨#[]⟩) (.bool true) (.slice none 0 0))).heap.size:=by simp
 have hb04:=hb03.trans (hbW4.mono hb03.size)
 have HB4:=Box.m (HB.o.below hb04)
 have d1:=HB4.o.c1
 go_wp2
 generalize w3.alloc (jr (.slice AM M.length cM) (.string ⟨#[]⟩) (.bool true) (.slice none 0 0))=w4 at *
 have HB3:=Box.m (HB.o.below hb03)
 clear b0 b1 b2 d1 HB1 hbB
 go_loopw [38] (fun i wr=>∃(j:Nat) (v:Value) (L:List P4) (pts:List PT),j<=ps.length/\i=.int .i64 j/\L.length<=j/\Box (fD wr w4.heap.size v L)/\Box (PVL wr (fun i=>w4.heap.size<=i/\some i≠v.ownBlock) 1 L pts)/\Box (pts=(bb.ps.mapIdx fun n p=>zq bb.ps k n p).take j)/\Box (PB4 wr w3.heap.size (.slice AM M.length cM) (.string ⟨#[]⟩) (.bool true) v)/\w4.grownBy wr (some w3.heap.size)) (fun i _=>ps.length - (intOf i).toNat)
 case atStart=>exact⟨0,.slice none 0 0,[],[],Nat.zero_le _,rfl,Nat.le_refl _,⟨fD.nil _ _⟩,⟨PVL.nil _ _ _⟩,⟨rfl⟩,HC4,ak ag _⟩
 case round=>
  obtain⟨j,v,L,pts,hj,rfl,hLj,HO,HV,HPt,HC,hg⟩:=hrel
  have hb4r:Below w3.heap.size w4 wr:=iX hg af hsz4
  have hb3r:=hbW4.trans hb4r
  have hb0r:=hb03.trans (hb3r.mono hb03.size)
  by_cases hlt:j<ps.length
  ·have HBr:=Box.m (HB3.o.below hb3r)
   obtain⟨g,off,e1,hx⟩:=HBr.o.xl.at_ j hlt
   subst e1
   have HX3:=Box.m (HB3.o.xl.sm ps[j] (ZW hlt))
   have hbl:bb.ps.length=ps.length:=by rw[HBB.o];simp
   have hbj:bb.ps[j]'(by omega)=ps[j].bp:=by
    have:bb.ps=ps.map XP.bp:=by rw[HBB.o]
    simp[this]
   have HPn:Box ((bb.ps.mapIdx fun n p=>zq bb.ps k n p).take (j+1)=(bb.ps.mapIdx fun n p=>zq bb.ps k n p).take j++[zq bb.ps k j ps[j].bp]):=⟨by
    rw[List.take_add_one,List.getElem?_eq_getElem (by rw[ZX];omega),List.getElem_mapIdx,hbj]
    rfl⟩
   have HFp:=Box.m (HFi.o.ps ps[j].bp (by rw[<-hbj];exact ZW _))
   have hbps:bb.ps=ps.map XP.bp:=by rw[HBB.o]
   generalize ps[j]=p at hx HX3 HPn HFp
   clear hbj hbl
   have hbP:=aD wr (fq p)
   have hgP:=aP wr (fq p)
   have hWg:w4.grownBy (wr.alloc (fq p)) (some w3.heap.size):=mf hg (ak hbP none) (by simp)
   have HBel:Box (∀w',w4.grownBy w' (some w3.heap.size)->Below w3.heap.size w3 w'/\Below w.heap.size w w'):=⟨fun w' hg'=>by
    have h1:=hbW4.trans (iX hg' af hsz4)
    exact⟨h1,hb03.trans (h1.mono hb03.size)⟩⟩
   have hbWw:=(HBel.o _ hWg).2
   have HBd:Box (Calls prog 73 #[.pointer (some ⟨b,0,none⟩),p.val,.string m] (wr.alloc (fq p)) fun e w'=>∃S,e=.returned (.tuple #[.string S,.nilIface])/\S.data.toList=mW bb.ps p.bp k/\Below (wr.alloc (fq p)).heap.size (wr.alloc (fq p)) w'):=⟨by
    have h1:=Es (HB.o.below hbWw) p (HX3.o.below (HBel.o _ hWg).1) m k HMk.o (by omega) ((HP.o.below hbWw).up hbWw.size) (HG.o.mx.below hbWw hgb.g0) (HT.o.below hbWw htl) (by
     have:=BD bb.ps p.bp k (by rw[hbps,Xu];exact hpl) HKl.o HFp.o.2.2
     rw[hbps]at this
     omega)
    rw[<-hbps]at h1
    exact h1⟩
   have HNi:Box (∀w',w4.grownBy w' (some w3.heap.size)->Calls prog 72 #[.int .i64 (j:Int),.string m] w' fun e w''=>∃t:ByteArray,e=.returned (.string t)/\t.data.toList=fA j k/\t.size<=26/\Below w'.heap.size w' w''):=⟨fun w' hg'=>by
    refine(yC j m w' (by omega) (by omega) (HT.o.below (HBel.o w' hg').2 htl)).mono ?_
    rintro e w'' ⟨t,rfl,h1,h2,h3⟩
    exact⟨t,rfl,by rw[h1,HMk.o];rfl,by omega,h3⟩⟩
   have HWi:Box (∀w' (id:ByteArray),id.data.toList=fA j k->id.size<=26->w4.grownBy w' (some w3.heap.size)->Calls prog 74 #[p.hd,.string id] w' fun e w''=>∃u M,e=.returned u/\bJ w'' w'.heap.size u M/\M.map fl2=ui p.bp.head j k/\Below w'.heap.size w' w''):=⟨fun w' id hid hids hg'=>by
    have hX':=HX3.o.below (HBel.o w' hg').1
    refine(ND p.hd p.fs id w' hX'.hs hX'.fl (by omega)).mono ?_
    rintro e w'' ⟨u,M,rfl,h1,h2,_,h4⟩
    exact⟨u,M,rfl,h1,by rw[h2,hid];rfl,h4⟩⟩
   have HHd:=Box.m HFp.o.1
   have HBp:Box (zq bb.ps k j p.bp=.mk (ui p.bp.head j k) (mW bb.ps p.bp k) false []):=⟨rfl⟩
   generalize hbh:p.bp.head=ph at HWi HBp HHd
   generalize hbo:mW bb.ps p.bp k=body at HBd HBp
   generalize hbi:zq bb.ps k j p.bp=pt at HPn HBp
   obtain⟨AP,cP,hvP,-⟩:=_root_.id HX3.o.fl
   clear hbh hbo hbi HX3 HFp hbps
   obtain⟨hd,fs,bd,id0,⟨a0,a1,a2,a3,a4,a5,a6,a7⟩⟩:=p
   simp only at hvP
   subst hvP
   obtain⟨f0,f1,f2,f3,f4,f5,f6,f7,f8,f9,fa⟩:=hx
   obtain⟨p0,p1,p2,p3,p4,p5,p6,p7,p8,p9,pa⟩:=uh hgP
   have hX0:∀w':World,w'.heap[wr.heap.size]?=some (fq ⟨.slice AP fs.length cP,fs,bd,id0,⟨a0,a1,a2,a3,a4,a5,a6,a7⟩⟩)->w'.cell? ⟨wr.heap.size,0,none⟩=some (.slice AP fs.length cP):=fun w' h'=>(uh h').c0
   have HX0:=Box.m hX0
   have hszP:wr.heap.size<(wr.alloc (fq ⟨.slice AP fs.length cP,fs,bd,id0,⟨a0,a1,a2,a3,a4,a5,a6,a7⟩⟩)).heap.size:=by simp
   have HGp:=Box.m hgP
   have k7:(j:Int)<(ps.length:Int):=by omega
   have k8:(0:Int)<=(j:Int):=by omega
   clear hX0 hgP
   unfold fq at hbP HGp HX0 hWg hbWw HBd p0 p1 p2 p3 p4 p5 p6 p7 p8 p9 pa hszP
   simp only[Nat.zero_add]at hbP HGp HX0 hWg hbWw HBd p0 p1 p2 p3 p4 p5 p6 p7 p8 p9 pa hszP f0 f1 f2 f3 f4 f5 f6 f7 f8 f9 fa
   obtain⟨Av,nv,cv,hvv⟩:∃Av nv cv,v=.slice Av nv cv:=by
    obtain⟨Av,cv,e⟩:=HO.o.len
    exact⟨Av,_,cv,e⟩
   subst hvv
   have HR3:Box (∀x,wr.heap.size<=x->(Value.slice Av nv cv).ownBlock≠some x):=⟨fun x hx e=>by have:=(World.ownsRow.lt HO.o x e).2;omega⟩
   have HC3:Box (∀x,(Value.slice Av nv cv).ownBlock=some x->w4.heap.size<=x):=⟨fun x e=>(World.ownsRow.lt HO.o x e).1⟩
   have hsr:=hg.size
   have hL1:L.length+1<=1000000:=by omega
   go_wp2_with fail
   refine HBd.o.mono ?_
   rintro e w5 ⟨Sb,rfl,hSb,hb5⟩
   have hbr5:Below wr.heap.size wr w5:=hbP.trans (hb5.mono hbP.size)
   have HSb:=Box.m hSb
   have hq5:=HX0.o w5 (az hb5 HGp.o)
   have hg5:w4.grownBy w5 (some w3.heap.size):=mf hg (ak hbr5 none) (by simp)
   have hC5:PB4 w5 w3.heap.size (.slice AM M.length cM) (.string ⟨#[]⟩) (.bool true) (.slice Av nv cv):=HC.o.gr (ak hbr5 none) (by simp)
   have hc5:w5.cell? ⟨w3.heap.size,3,none⟩=some (.slice Av nv cv):=(ic hC5).c3
   have HC5:=Box.m hC5
   have hszr:wr.heap.size<w5.heap.size:=Nat.lt_of_lt_of_le hszP hb5.size
   clear HBd hSb HX0 HGp hC5 p0 p1 p2 p3 p4 p5 p6 p7 p8 p9 pa f0 f1 f2 f3 f4 f5 f6 f7 f8 f9 fa hb5 hbP hWg hbWw HBr
   go_wp2_with fail
   refine fC 13 (BSt w4 w3.heap.size wr.heap.size (.slice Av nv cv) (.slice AP fs.length cP)) (by kernel_rfl) ?_
   have hS:BSt w4 w3.heap.size wr.heap.size (.slice Av nv cv) (.slice AP fs.length cP) w5.drew:=⟨hq5,hc5,mf hg5 (ak ag.drew none) (by simp)⟩
   clear hq5 hc5
   refine aj (i:=0) (n:=53) (.pointer (some ⟨w3.heap.size,3,none⟩)) rfl rfl (by kernel_rfl) (by kernel_rfl) (by kernel_rfl) (by kernel_rfl) (fun _ _ _ h=>h) rfl (fun w' hS'=>?_) hS ?_
   ·clear hS' hS
    go_simp<;>with_reducible rfl
   simp only[Act.put,aH,aG,aI]
   refine aj (i:=1) (n:=54) (.slice Av nv cv) rfl rfl (by kernel_rfl) (by kernel_rfl) (by kernel_rfl) (by kernel_rfl) (fun _ _ _ h=>h) rfl (fun w' hS'=>?_) hS ?_
   ·have l0:=hS'.cb
    clear hS' hS
    go_simp<;>with_reducible rfl
   simp only[Act.put,aH,aG,aI]
   refine aj (i:=2) (n:=55) (.pointer (some ⟨wr.heap.size,0,none⟩)) rfl rfl (by kernel_rfl) (by kernel_rfl) (by kernel_rfl) (by kernel_rfl) (fun _ _ _ h=>h) rfl (fun w' hS'=>?_) hS ?_
   ·clear hS' hS
    go_simp<;>with_reducible rfl
   simp only[Act.put,aH,aG,aI]
   refine aj (i:=3) (n:=56) (.slice AP fs.length cP) rfl rfl (by kernel_rfl) (by kernel_rfl) (by kernel_rfl) (by kernel_rfl) (fun _ _ _ h=>h) rfl (fun w' hS'=>?_) hS ?_
   ·have l0:=hS'.q0
    clear hS' hS
    go_simp<;>with_reducible rfl
   simp only[Act.put,aH,aG,aI]
   refine aj (i:=4) (n:=57) (.int .i64 (j:Int)) rfl rfl (by kernel_rfl) (by kernel_rfl) (by kernel_rfl) (by kernel_rfl) (fun _ _ _ h=>h) rfl (fun w' hS'=>?_) hS ?_
   ·clear hS' hS
    go_simp<;>with_reducible rfl
   simp only[Act.put,aH,aG,aI]
   refine aj (i:=5) (n:=58) (.string m) rfl rfl (by kernel_rfl) (by kernel_rfl) (by kernel_rfl) (by kernel_rfl) (fun _ _ _ h=>h) rfl (fun w' hS'=>?_) hS ?_
   ·clear hS' hS
    go_simp<;>with_reducible rfl
   simp only[Act.put,aH,aG,aI]
   refine aj (i:=8) (n:=61) (.string Sb) rfl rfl (by kernel_rfl) (by kernel_rfl) (by kernel_rfl) (by kernel_rfl) (fun _ _ _ h=>h) rfl (fun w' hS'=>?_) hS ?_
   ·clear hS' hS
    go_simp<;>with_reducible rfl
   simp only[Act.put,aH,aG,aI]
   refine ai (i:=6) (by kernel_rfl) rfl (fun K' hK=>?_)
   rw[if_pos (by rfl)]
   go_wp2_with (go_at_call 72;refine(HNi.o _ hS.gr).mono ?_;rintro e w6 ⟨it,rfl,hit,hits,hb6⟩)
   refine hK.out _ _ (fun _=>hS.keep (ak hb6 none) (by simp)) ?_
   have hS:=hS.keep (ak hb6 none) (by simp)
   clear hK
   refine ai (i:=7) (by kernel_rfl) rfl (fun K' hK=>?_)
   rw[if_pos (by rfl)]
   go_wp2_with (go_at_call 74;refine(HWi.o _ it hit hits hS.gr).mono ?_;rintro e w7 ⟨u7,M7,rfl,hO7,hM7,hb7⟩;obtain⟨A7,n7,c7,hu7⟩:∃A7 n7 c7,u7=.slice A7 n7 c7:=(by obtain⟨A7,c7,e7,_⟩:=pM hO7;exact⟨A7,_,c7,e7⟩);subst hu7)
   refine hK.out _ _ (fun _=>hS.keep (ak hb7 none) (by simp)) ?_
   have hS:=hS.keep (ak hb7 none) (by simp)
   clear hK
   refine aj (i:=9) (n:=62) (.agg #[.slice A7 n7 c7,.string Sb,.bool false,.slice none 0 0]) rfl rfl (by kernel_rfl) (by kernel_rfl) (by kernel_rfl) (by kernel_rfl) (fun _ _ _ h=>h) rfl (fun w' hS'=>?_) hS ?_
   ·clear hS' hS
    go_simp<;>with_reducible rfl
   simp only[Act.put,aH,aG,aI]
   refine ai (i:=10) (by kernel_rfl) rfl (fun K' hK=>?_)
   rw[if_pos (by rfl)]
   go_wp2
   refine hK.out _ _ (fun _=>hS.keep (ak (ag.alloc af _) none) (by simp)) ?_
   have hS:=hS.keep (ak ((Below.refl w7.heap.size w7).alloc af (jr (.slice A7 n7 c7) (.string Sb) (.bool false) (.slice none 0 0))) none) (by simp)
   clear hK
   have hb57:Below w5.heap.size w5 w7:=(Below.refl w5.heap.size w5).drew.trans (hb6.trans (hb7.mono hb6.size))
   have hbr7:Below wr.heap.size wr w7:=hbr5.trans (hb57.mono hbr5.size)
   refine ai (i:=11) (by kernel_rfl) rfl (fun K' hK=>?_)
   refine yU _ (by rfl) (.tmp 54) (.tmp 63) (by rfl) w4.heap.size (.slice Av nv cv) L (by rfl) (World.ownsRow.alloc (fD.belowP HO.o hbr7 af) _) _ _ (.slice A7 n7 c7,.string Sb,.bool false,.slice none 0 0) (by rfl) (by simp) (by simp) (by simp) (by simp) ⟨rfl,rfl,rfl,rfl⟩ hL1 (by have:=hbr7.size;simp;omega) ?_
   intro v8 w8 hO8 hg8 hk8
   have hS8:=hS.keep hg8 (fun x e=>⟨fun e2=>by have:=HC3.o _ e;omega,fun e2=>HR3.o _ (Nat.le_of_eq e2.symm) e,HC3.o _ e⟩)
   refine hK.out _ _ (fun _=>hS8) ?_
   have hB8:PB4 w8 w3.heap.size (.slice AM M.length cM) (.string ⟨#[]⟩) (.bool true) (.slice Av nv cv):=PB4.gr (PB4.gr HC5.o (ak hb57 none) (by simp)) (aO (ak (aD w7 _) _) hg8) (fun e=>by have:=HC3.o _ e.symm;omega)
   obtain⟨A8,n8,c8,hv8⟩:∃A8 n8 c8,v8=.slice A8 n8 c8:=by
    obtain⟨A8,c8,e8⟩:=hO8.len
    exact⟨A8,_,c8,e8⟩
   subst hv8
   have HLf:Box (PV w7 (fun i=>w4.heap.size<=i/\some i≠(Value.slice Av nv cv).ownBlock) 1 (.slice A7 n7 c7,.string Sb,.bool false,.slice none 0 0) pt):=⟨by
    rw[HBp.o,<-hM7,<-HSb.o]
    have hh7:uW M7:=by
     refine Kk M7 _ hM7 ?_ ?_
     ·have:=HHd.o.len
      have h1:(ph.filter fun f=>!decide (ah f.1=ciN)).length<=ph.length:=List.length_filter_le _ _
      unfold ui
      rw[GL,List.length_singleton]
      omega
     ·intro f hf
      unfold ui at hf
      have hid:=uC j k (by omega) HKl.o
      have ea:(cK (fA j k)).length=(fA j k).length+2:=by simp[cK]
      have ec:ciB.length=10:=rfl
      rcases List.mem_append.1 hf with hf|hf
      ·have:=HHd.o.fs f (List.mem_filter.1 hf).1;omega
      ·rw[List.mem_singleton.1 hf]
       simp only
       omega
    have h6:w5.heap.size<=w6.heap.size:=hb6.size
    refine PV.mono (fun i _ hi=>?_) _ _ _ (WV hO7 hh7 Sb)
    have hi:w6.heap.size<=i:=hi
    exact⟨by omega,fun e=>HR3.o i (by omega) e.symm⟩⟩
   have HK8:=Box.m hk8
   have HG8:=Box.m hg8
   clear hS hK hk8 hg8 hO7 hM7
   have hS:=hS8
   change eT _ _ _ _ _ _ _ _ (Act.put _ (some 64) _) _
   simp only[Act.put,aH,aG,aI]
   refine aj (i:=12) (n:=65) (.pointer (some ⟨w3.heap.size,3,none⟩)) rfl rfl (by kernel_rfl) (by kernel_rfl) (by kernel_rfl) (by kernel_rfl) (fun _ _ _ h=>h) rfl (fun w' hS'=>?_) hS ?_
   ·clear hS' hS
    go_simp<;>with_reducible rfl
   simp only[Act.put,aH,aG,aI]
   have HO8:=Box.m hO8
   have HB8:=Box.m hB8
   obtain⟨-,-,-,cb8,cf8⟩:=ic hB8
   have hgS:=hS.gr
   clear hO8 hB8 hS8 hS
   refine ai (i:=13) (by kernel_rfl) rfl (fun K' hK=>?_)
   rw[if_pos (by rfl)]
   go_wp2
   refine hK.out _ _ (fun h=>absurd rfl h) ?_
   clear hK
   refine ja (by kernel_rfl) ?_ _
   have hg9:=iT w8 w3.heap.size 3 (.slice A8 n8 c8)
   have HO9:=Box.m (fD.kept HO8.o hg9 hsz4)
   have HB9:=Box.m (HB8.o.set (.slice A8 n8 c8))
   have hgE:=mf hgS hg9 (fun x e=>.inl (Option.some.inj e).symm)
   go_wp2
   go_roundw
   case rel=>
    refine⟨j+1,_,L++[_],pts++[pt],by omega,by go_num,by rw[GL];simp;omega,HO9,⟨?_⟩,⟨by rw[HPn.o,HPt.o]⟩,HB9,hgE⟩
    have hab:Abv (fun i=>(w4.heap.size<=i/\some i≠(Value.slice Av nv cv).ownBlock)/\i<w7.heap.size) w7 (w8.setCell ⟨w3.heap.size,3,none⟩ (.slice A8 n8 c8)):=fun i hi hl=>by
     have e1:(w8.setCell ⟨w3.heap.size,3,none⟩ (.slice A8 n8 c8)).heap[i]?=w8.heap[i]?:=heap_setCell_other w8 ⟨w3.heap.size,3,none⟩ i _ (by show i≠w3.heap.size;omega)
     exact e1.trans ((HG8.o.block i (by simp;omega) hi.1.2).trans ((aD w7 _).block i hl))
    refine(((HV.o.abv (dM hbr7)).snoc _ _ HLf.o).mono (T:=fun i=>(w4.heap.size<=i/\some i≠(Value.slice Av nv cv).ownBlock)/\i<w7.heap.size) (fun i h1 h2=>⟨h2,h1⟩) |>.abv hab).mono ?_
    rintro i _ ⟨⟨h1,h2⟩,h3⟩
    refine⟨h1,fun e=>?_⟩
    rcases HK8.o with hv3|hv3
    ·exact h2 (e.trans hv3)
    ·rw[hv3]at e;simp at e;omega
   case measure=>simp[intOf];omega
  ·have hjl:j=ps.length:=by omega
   obtain⟨Av,nv,cv,hvv⟩:∃Av nv cv,v=.slice Av nv cv:=by
    obtain⟨Av,cv,e⟩:=HO.o.len
    exact⟨Av,_,cv,e⟩
   subst hvv
   have hbe:=HBB.o
   have HPV:Box (PV wr (fun i=>w.heap.size<=i) 2 (.slice AM M.length cM,.string ⟨#[]⟩,.bool true,.slice Av nv cv) (nu bb k)):=⟨by
    have e1:nu bb k=.mk (M.map fl2) (⟨#[]⟩:ByteArray).data.toList true pts:=by
     rw[nu,HM3.o,HPt.o,List.take_of_length_le (by rw[ZX,hbe];simp;omega)]
     rw[hbe]
    have hsm:=HSm.o
    rw[e1]at hsm ⊢
    obtain⟨⟨s1,s2,_⟩,_⟩:=hsm
    have hw4:w.heap.size<=w4.heap.size:=hb04.size
    exact S9 (bJ.below HO3.o hb3r af) (Kk M _ rfl s1 s2) (FX HO.o hw4) (HV.o.mono (fun i _ hi=>Nat.le_trans hw4 hi.1)) (by omega) _ _⟩
   have hGr:=HG.o.below hb0r hgb
   have HWr:=Box.m (Ei 2 (nu bb k) _ wr _ HPV.o HSm.o hGr (HT.o.below hb0r htl))
   obtain⟨d0,d1,d2,d3,df⟩:=ic HC.o
   obtain⟨O,HOo⟩:∃O,Box (sw (dY 4 0 (nu bb k))=O):=⟨_,⟨rfl⟩⟩
   rw[HOo.o]at HWr
   have hkk:¬((j:Int)<(ps.length:Int)):=by omega
   clear hbe HPV hGr hjl
   unfold P4.v at HWr
   simp only at HWr
   go_wp2_with fail
   refine HWr.o.mono ?_
   rintro e w9 ⟨hW,hb9⟩
   have hbE:=hb0r.trans (hb9.mono hb0r.size)
   clear HWr
   cases O with
   | error c=>
    have hW:e=.returned (.tuple #[.string ⟨#[]⟩,.iface 25 (.int .i64 c)]):=hW
    subst hW
    go_wp2
    go_ret2
    exact⟨k,by rw[HOo.o];rfl,HAp.o,HMi.o,hbE⟩
   | ok t=>
    obtain⟨T,rfl,hTt⟩:=(hW:∃T:ByteArray,e=.returned (.tuple #[.string T,.nilIface])/\T.data.toList=t)
    have HTt:=Box.m hTt
    clear hTt
    go_wp2
    go_ret2
    exact⟨k,by rw[HOo.o];exact⟨T,rfl,HTt.o⟩,HAp.o,HMi.o,hbE⟩
end Go.Proofs.YtkldkhdigkpniaaGreatDoor
