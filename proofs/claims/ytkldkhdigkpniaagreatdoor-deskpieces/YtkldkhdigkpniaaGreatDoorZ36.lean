import Derived.Test.YtkldkhdigkpniaaGreatDoorZ35
set_option maxHeartbeats 100000000
set_option maxRecDepth 100000
open Int renaming natCast_add → GL, toNat_natCast → VQ
open Nat renaming le_of_lt → Ws, lt_succ_self → Xu, le_refl → ZV, add_assoc → ZW, lt_of_lt_of_le → ZX, zero_le → ZY
open List renaming length_append → ZZ, length_drop → Z0, append_nil → Z4, takeWhile_append_dropWhile → Z5, getLast?_append → Z6, length_cons → Z7, drop_succ_cons → Z8, drop_zero → Z9, length_pos_iff → aaa, take_left' → aab, drop_drop → aac, map_drop → aad, nil_append → aae, drop_left' → aaf, takeWhile_cons_of_neg → aag, dropWhile_cons_of_neg → aah, length_take → aai, cons_append → aaj, drop_of_length_le → aak
open Option renaming map_eq_some_iff → aal, map_eq_none_iff → aam, any_some → aan
open ByteArray renaming data_append → aao, size_append → aap
open Array renaming toList_append → aaq
namespace Go.Proofs.YtkldkhdigkpniaaGreatDoor
open Go.RowKit Go.Proofs.Px Go.Proofs.Tryz
theorem Qe(b a u g k:Nat)(pg sm:ByteArray)(L:Value)(w:World)(h:PR w b pg sm a L)(hG:GP w b)(hl:pg.size<=100000000)(hsm:sm.data.toList=ah pg.data.toList)(ha:a<pg.size)(hu:(a+1)+fT yt.data.toList sm.data.toList (a+1)=u)(hg:u+lM gL.data.toList sm.data.toList u=g)(hq:fF isA sm g=true)(hgl:g<pg.size)(hk:(g+1)+lM gL.data.toList sm.data.toList (g+1)=k)(v:aa)(q:Bool)(hv:yw (pg.data.toList.drop k)=some (v,q))(hn:bZ.contains ((sm.data.toList.drop a).take (u - a))=true)(ls:List Lk)(hO:gD w (b+1) L ls)(hls:ls.length+1<=1000000000):
  Calls prog 218 #[.pointer (some ⟨b,0,none⟩)] w fun e w'=>e=.returned (.tuple #[])/\∃L' V,PR w' b pg sm (k+v.length+2*qn q) L'/\gD w' (b+1) L' (ls++[(k+qn q,v.length,V)])/\V.data.toList=dH v/\k+v.length+2*qn q<=pg.size/\Below b w w':=by
 have hs:sm.size=pg.size:=by rw[<-ae,hsm,<-ae];unfold ah;simp
 obtain⟨c0,c1,c2,c3,f2,f3,hb⟩:=h.cells
 have HU:=Box.m hu
 have HG:=Box.m hg
 have HQ:=Box.m hq
 have HK:=Box.m hk
 have HV:=Box.m hv
 have HN:Box (bZ.contains (sm.extract a u).data.toList=true):=⟨by rw[aB];exact hn⟩
 have HS:=Box.m hsm
 have HO:=Box.m hO
 clear hO
 have HGP:=Box.m hG
 have hau:a+1<=u:=by omega
 have HP1:=Box.m (h.setA (a+1))
 rw[GL]at HP1
 clear hu hg hq h hk hv hG hsm hn
 go_enter func218,ntmps218
 go_wp2_with fail
 refine(j5 b (a+1) pg sm yt L _ HP1.o hl hs ha).mono ?_
 rw[HU.o]
 rintro e w2 ⟨rfl,hP2,hu2,hg2⟩
 have hg02:=(bP w b 2 (.int .i64 ((a:Int)+1))).trans hg2
 have HP2:=Box.m hP2
 clear hP2 hg2 HP1 c0 c1 c2 c3 f2 f3
 obtain⟨d0,d1,d2,d3,g2,g3,hb2⟩:=HP2.o.cells
 have k1:(0:Int)<=(a:Int):=by omega
 have k2:(a:Int)<=(u:Int):=by omega
 have k3:(u:Int)<=(sm.size:Int):=by omega
 go_wp2_with fail
 go_region
 go_wp2_with fail
 have HP3:=Box.m (HP2.o.below (Below.refl w2.heap.size w2).drew hb2)
 have hg03:=hg02.trans (aL (Below.refl w2.heap.size w2).drew (some b))
 refine(jI b u pg sm gL L _ HP3.o hl hs hu2).mono ?_
 rw[HG.o]
 rintro e w4 ⟨rfl,hP4,hu4,hg4⟩
 have hg04:=hg03.trans hg4
 have HP4:=Box.m hP4
 have hb4:=hP4.cells.2.2.2.2.2.2
 clear hP4 hg4 HP3 HP2 d0 d1 d2 d3 g2 g3
 go_wp2_with fail
 refine(cZ b g pg sm isA L _ HP4.o hs hu4).mono ?_
 rw[HQ.o]
 rintro e w5 ⟨rfl,hb5⟩
 have HP5:=Box.m (HP4.o.below hb5 hb4)
 obtain⟨d0,d1,d2,d3,g2,g3,hb6⟩:=HP5.o.cells
 have HP6:=Box.m (HP5.o.setA (g+1))
 rw[GL]at HP6
 have hg06:=(hg04.trans (aL hb5 (some b))).trans (bP w5 b 2 (.int .i64 ((g:Int)+1)))
 go_wp2_with fail
 refine(jI b (g+1) pg sm gL L _ HP6.o hl hs hgl).mono ?_
 rw[HK.o]
 rintro e w7 ⟨rfl,hP7,hu7,hg7⟩
 have hg07:=hg06.trans hg7
 have HP7:=Box.m hP7
 have HG7:=Box.m (HGP.o.grown hg07)
 clear hP7 hg7 d0 d1 d2 d3 g2 g3 HP4 HP5 HP6
 go_wp2_with fail
 refine(yH b k pg sm L _ HP7.o HG7.o.words HG7.o.n0 hl HS.o hu7).mono ?_
 rw[HV.o]
 rintro e w8 ⟨⟨V,rfl,hV⟩,hP8,hle,hg8⟩
 have hg08:=hg07.trans hg8
 have HP8:=Box.m hP8
 have hb8:=hP8.cells.2.2.2.2.2.2
 have hA:∀o:Obj,Below w8.heap.size w8 (w8.alloc o):=fun o=>ag.alloc af o
 have HL8:Box (∀o:Obj,Fy (w8.alloc o)):=⟨fun o=>((HG7.o.grown hg8).grown (aL (hA o) (some b))).leads⟩
 have HO8:=Box.m (HO.o.kept hg08 (Xu b))
 have HV8:=Box.m hV
 have hbw:=aY hg08 (Ws hb)
 clear hP8 hg8 hV
 obtain⟨A8,cap8,hL8,hc8⟩:=HO8.o.len
 subst hL8
 go_wp2_with (go_at_call 253;refine(vJ _ _ (HL8.o _)).mono ?_;rw[HN.o];rintro e w9 ⟨rfl,rfl⟩)
 have hA9:=hA (Obj.cells #[Value.int IntKind.i64 ((k:Int)+(qn q:Int)),Value.int IntKind.i64 (v.length:Int),Value.string V] 84)
 have p0:(w8.alloc (Obj.cells #[Value.int IntKind.i64 ((k:Int)+(qn q:Int)),Value.int IntKind.i64 (v.length:Int),Value.string V] 84)).cell? ⟨w8.heap.size,0,none⟩=some (.int .i64 ((k:Int)+(qn q:Int))):=by simp
 have p1:(w8.alloc (Obj.cells #[Value.int IntKind.i64 ((k:Int)+(qn q:Int)),Value.int IntKind.i64 (v.length:Int),Value.string V] 84)).cell? ⟨w8.heap.size,1,none⟩=some (.int .i64 (v.length:Int)):=by simp
 have p2:(w8.alloc (Obj.cells #[Value.int IntKind.i64 ((k:Int)+(qn q:Int)),Value.int IntKind.i64 (v.length:Int),Value.string V] 84)).cell? ⟨w8.heap.size,2,none⟩=some (.string V):=by simp
 generalize w8.alloc (Obj.cells #[Value.int IntKind.i64 ((k:Int)+(qn q:Int)),Value.int IntKind.i64 (v.length:Int),Value.string V] 84)=w9 at hA9 p0 p1 p2 ⊢
 have HP9:=Box.m (HP8.o.below hA9 hb8)
 have HO9:=Box.m (HO8.o.below hA9 af)
 have hb9:Below b w w9:=hbw.trans (hA9.mono (Ws hb8))
 have hbs:b+1<=w9.heap.size:=Nat.le_trans hb8 hA9.size
 obtain⟨d0,d1,d2,d3,g2,g3,hb10⟩:=HP9.o.cells
 clear HP7 HP8 HO8 HO HL8 HG7 HGP HS HN HV HK HQ HG HU hA hA9
 go_region_law (refine Q8 _ w9 rfl (.tmp 57) (.tmp 59) rfl (b+1) (.slice A8 ls.length cap8) ls (by simp[Act.eval]) (by exact World.ownsRow.alloc HO9.o _) w9.heap.size 1 (k+qn q,v.length,V) (by simp[Act.eval]) (by simp) (by simp) (by simp) hls (by simp;omega) (by exact(ag.drew).alloc hbs _) ?_;intro v' w6 hown6 hb6;obtain⟨A6,cap6,rfl,hc6⟩:=hown6.len;obtain⟨e0,e1,e2,e3,i2,i3,hb11⟩:=(HP9.o.below hb6 (Xu b)).cells)
 all_goals
  go_wp2
  go_end0
  exact⟨rfl,_,V,(HP9.o.below hb6 (Xu b)).setL _,(by have h:=hown6.kept (bP w6 b 3 (.slice A6 (ls.length+1) cap6)) (Xu b);rw[ZZ]at h;exact h),HV8.o,hle,(hb9.trans (hb6.mono (Nat.le_succ b))).trans (aY (bP _ b 3 _) (Ws hb11))⟩
structure PGB(w:World)(b:Nat):Prop where
 gp:GP w b
 l0:12<b
 l1:11<b
 l2:6<b
 l3:0<b
theorem bz{w w':World}{b k i:Nat}{v:Value}(hg:Below b w w')(hk:k<b)(h:w.cell? ⟨k,i,none⟩=some v):w'.cell? ⟨k,i,none⟩=some v:=(hg.cell (p:=⟨k,i,none⟩) hk).trans h
theorem PGB.below{w w':World}{b:Nat}(h:PGB w b)(hg:Below b w w'):PGB w' b:=by
 obtain⟨m,hm⟩:=h.gp.mx
 have W:=h.gp.words
 have E:=h.gp.leads
 have V:=h.gp.verbs
 exact⟨⟨⟨bz hg h.l0 W.c0,bz hg h.l0 W.c1,bz hg h.l0 W.c2,bz hg h.l0 W.c3,bz hg h.l0 W.c4,bz hg h.l0 W.c5,bz hg h.l0 W.c6,bz hg h.l0 W.c7,bz hg h.l0 W.c8,bz hg h.l0 W.c9⟩,
  ⟨bz hg h.l1 E.c0,bz hg h.l1 E.c1,bz hg h.l1 E.c2⟩,
  ⟨bz hg h.l2 V.c0,bz hg h.l2 V.c1,bz hg h.l2 V.c2,bz hg h.l2 V.c3⟩,
  ⟨m,bz hg h.l3 hm⟩,h.gp.n0,h.gp.n1,h.gp.n2,h.gp.n3⟩,h.l0,h.l1,h.l2,h.l3⟩
theorem LG(n nm pre w:aa):gy n nm pre w=match yw w with
  | none=>none
  | some (v,q)=>if bZ.contains nm then some (pre++w.take (qn q),some (v,q),some (false,n),w.drop (v.length+2*qn q)) else some (pre++w.take (v.length+2*qn q),none,some (false,n),w.drop (v.length+2*qn q)):=by
 unfold gy yw
 cases w with
 | nil=>rfl
 | cons q t=>
  simp only
  by_cases h1:q=34\/q=39
  ·rw[if_pos h1,if_pos h1,zO]
   by_cases h2:t.dropWhile (· != q)=[]
   ·rw[if_pos h2,if_pos h2];rfl
   ·rw[if_neg h2,if_neg h2]
    obtain⟨d,r,hd⟩:∃d r,t.dropWhile (· != q)=d::r:=by
     cases hh:t.dropWhile (· != q)with
     | nil=>exact absurd hh h2
     | cons d r=>exact⟨d,r,rfl⟩
    have hdq:d=q:=by
     have:=fe (p:=(· != q)) t
     rw[hd]at this
     simpa using this
    subst hdq
    have ht:t=t.takeWhile (· != d)++d::r:=by rw[<-hd,Z5]
    have hq1:qn true=1:=rfl
    simp only[Option.map_some,hd,hq1]
    generalize t.takeWhile (· != d)=V at ht ⊢
    clear hd h2
    subst ht
    have e:d::(V++d::r)=(d::V++[d])++r:=by simp
    have hdr:(d::(V++d::r)).drop (V.length+2*1)=r:=by rw[e];exact aaf (by simp)
    have htk:(d::(V++d::r)).take (V.length+2*1)=d::V++[d]:=by rw[e];exact aab (by simp)
    rw[hdr,htk]
    by_cases h3:bZ.contains nm=true
    ·rw[if_pos h3,if_pos h3];rfl
    ·rw[if_neg h3,if_neg h3];simp
  ·rw[if_neg h1,if_neg h1]
   by_cases h2:(q::t).dropWhile eH=[]
   ·rw[if_pos h2,if_pos h2]
   ·rw[if_neg h2,if_neg h2]
    have hq0:qn false=0:=rfl
    have hs:=Z5 (p:=eH) (l:=q::t)
    have hdr:(q::t).drop (((q::t).takeWhile eH).length+2*0)=(q::t).dropWhile eH:=by
     conv=>lhs;rw[<-hs]
     exact aaf (by rw[hs];omega)
    have htk:(q::t).take (((q::t).takeWhile eH).length+2*0)=(q::t).takeWhile eH:=by
     conv=>lhs;rw[<-hs]
     exact aab (by rw[hs];omega)
    simp only[hq0]
    rw[hdr,htk]
    by_cases h3:bZ.contains nm=true
    ·rw[if_pos h3,if_pos h3];simp
    ·rw[if_neg h3,if_neg h3]
theorem VU(l v:aa)(q:Bool)(h:yw l=some (v,q)):v.length+2*qn q<=l.length:=by
 cases l with
 | nil=>cases h
 | cons d y=>
  rw[yw]at h
  by_cases h1:d=34\/d=39
  ·rw[if_pos h1]at h
   by_cases h2:y.dropWhile (· != d)=[]
   ·rw[if_pos h2]at h;cases h
   ·rw[if_neg h2]at h
    simp only[Option.some.injEq,Prod.mk.injEq]at h
    obtain⟨rfl,rfl⟩:=h
    have e4:=jQ (p:=(· != d)) y
    have e5:=aaa.2 h2
    have:qn true=1:=rfl
    rw[Z7]
    omega
  ·rw[if_neg h1]at h
   by_cases h2:(d::y).dropWhile eH=[]
   ·rw[if_pos h2]at h;cases h
   ·rw[if_neg h2]at h
    simp only[Option.some.injEq,Prod.mk.injEq]at h
    obtain⟨rfl,rfl⟩:=h
    have e4:=jQ (p:=eH) (d::y)
    have:qn false=0:=rfl
    omega
def TN(pg sm:ByteArray)(b a:Nat)(w:World)(ls:List Lk):Option Out->Ending->World->Prop
 | none,e,w'=>e=.returned (.tuple #[])/\∃L',PR w' b pg sm pg.size L'/\gD w' (b+1) L' ls/\Below b w w'
 | some (c,none,_,r),e,w'=>e=.returned (.tuple #[])/\∃L',PR w' b pg sm (a+c.length) L'/\gD w' (b+1) L' ls/\pg.data.toList.drop (a+c.length)=r/\a+c.length<=pg.size/\Below b w w'
 | some (c,some (v,q),_,r),e,w'=>e=.returned (.tuple #[])/\∃L' V,PR w' b pg sm (a+c.length+v.length+qn q) L'/\gD w' (b+1) L' (ls++[(a+c.length,v.length,V)])/\V.data.toList=dH v/\pg.data.toList.drop (a+c.length+v.length+qn q)=r/\a+c.length+v.length+qn q<=pg.size/\Below b w w'
theorem ig(l:aa)(a:Nat)(x r:aa)(h:l.drop a=x++r):l.drop (a+x.length)=r:=by
 rw[<-aac,h,List.drop_left]
theorem JM(pg sm:ByteArray)(hsm:sm.data.toList=ah pg.data.toList)(a n:Nat):(sm.data.toList.drop a).take n=ah ((pg.data.toList.drop a).take n):=by
 rw[hsm];unfold ah;rw[List.map_take,aad]
theorem Sv(b a:Nat)(pg sm:ByteArray)(L:Value)(w:World)(h:PR w b pg sm a L)(hG:PGB w b)(hl:pg.size<=100000000)(hsm:sm.data.toList=ah pg.data.toList)(n t:aa)(c:UInt8)(hd:pg.data.toList.drop a=c::t)(hc:c≠62)(hk:dw c=false)(ls:List Lk)(hO:gD w (b+1) L ls)(hls:ls.length+1<=1000000000):
  Calls prog 218 #[.pointer (some ⟨b,0,none⟩)] w (TN pg sm b a w ls (bi n (c::t))):=by
 have hs:sm.size=pg.size:=by rw[<-ae,hsm,<-ae];unfold ah;simp
 have hbl:=h.cells.2.2.2.2.2.2
 have hln:(pg.data.toList.drop a).length=pg.size - a:=by rw[Z0,ae]
 have ha:a<pg.size:=by rw[hd]at hln;simp at hln;omega
 have hd1:pg.data.toList.drop (a+1)=t:=ig _ a [c] t hd
 have hu:(a+1)+fT yt.data.toList sm.data.toList (a+1)=a+1+(t.takeWhile aU).length:=by
  have:=sj Ya aU YU pg.data.toList (a+1)
  rw[hd1,<-hsm]at this
  exact congrArg (a+1+·) this
 have hdu:pg.data.toList.drop (a+1+(t.takeWhile aU).length)=t.dropWhile aU:=ig _ (a+1) _ _ (by rw[hd1,Z5])
 obtain⟨u,hu'⟩:∃u,a+1+(t.takeWhile aU).length=u:=⟨_,rfl⟩
 rw[hu']at hu hdu
 have hg:u+lM gL.data.toList sm.data.toList u=u+((t.dropWhile aU).takeWhile dG).length:=by
  have:=uH Ia dG XW pg.data.toList u
  rw[hdu,<-hsm]at this
  exact congrArg (u+·) this
 have hdg:pg.data.toList.drop (u+((t.dropWhile aU).takeWhile dG).length)=(t.dropWhile aU).dropWhile dG:=ig _ u _ _ (by rw[hdu,Z5])
 obtain⟨g,hg'⟩:∃g,u+((t.dropWhile aU).takeWhile dG).length=g:=⟨_,rfl⟩
 rw[hg']at hg hdg
 have hq:=jT isA sm _ ZO pg.data.toList hsm g
 rw[hdg]at hq
 have htk:(c::t).takeWhile dw=[]:=by rw[aag (by rw[hk];simp)]
 have hdk:(c::t).dropWhile dw=c::t:=by rw[aah (by rw[hk];simp)]
 unfold bi
 rw[htk,hdk]
 simp only[aae]
 rw[if_neg hc]
 by_cases h1:t.dropWhile aU=[]
 ·rw[if_pos h1]
  have hq0:fF isA sm g=false:=by rw[hq,h1];rfl
  have hgs:g=pg.size:=by
   have e1:=congrArg List.length hdu
   have e2:u<=pg.size:=by have:=jQ (p:=aU) t;rw[hd]at hln;simp at hln;omega
   rw[h1,Z0,ae]at e1
   rw[h1]at hg'
   simp at e1 hg'
   omega
  refine(Dc b a u g pg sm L w h hl hs ha hu hg hq0).mono ?_
  rintro e w' ⟨rfl,hP,hw⟩
  rw[hgs]at hP
  exact⟨rfl,L,hP,hO.kept hw (Xu b),aY hw (Ws hbl)⟩
 ·rw[if_neg h1]
  have hgl:g<=pg.size:=by
   have e1:=jQ (p:=aU) t
   have e2:=jQ (p:=dG) (t.dropWhile aU)
   rw[hd]at hln;simp at hln;omega
  by_cases h2:((t.dropWhile aU).dropWhile dG).head?=some 61
  ·rw[if_pos h2]
   have hq1:fF isA sm g=true:=by rw[hq,h2];rfl
   obtain⟨x,hx⟩:∃x,(t.dropWhile aU).dropWhile dG=61::x:=by
    cases hh:(t.dropWhile aU).dropWhile dG with
    | nil=>rw[hh]at h2;cases h2
    | cons d x=>rw[hh]at h2;simp at h2;rw[h2];exact⟨x,rfl⟩
   rw[hx]at hdg ⊢
   have hgl2:g<pg.size:=by
    have e1:=congrArg List.length hdg
    rw[Z0,ae]at e1
    simp at e1;omega
   have hdg1:pg.data.toList.drop (g+1)=x:=ig _ g [61] x hdg
   have hkk:(g+1)+lM gL.data.toList sm.data.toList (g+1)=g+1+(x.takeWhile dG).length:=by
    have:=uH Ia dG XW pg.data.toList (g+1)
    rw[hdg1,<-hsm]at this
    exact congrArg (g+1+·) this
   have hdk2:pg.data.toList.drop (g+1+(x.takeWhile dG).length)=x.dropWhile dG:=ig _ (g+1) _ _ (by rw[hdg1,Z5])
   obtain⟨k,hk'⟩:∃k,g+1+(x.takeWhile dG).length=k:=⟨_,rfl⟩
   rw[hk']at hkk hdk2
   have hnm:(sm.data.toList.drop a).take (u - a)=ah (c::t.takeWhile aU):=by
    rw[JM pg sm hsm,hd,show u - a=(t.takeWhile aU).length+1 from by omega,List.take_succ_cons,qD]
   simp only[Z8,Z9]
   obtain⟨pre,hpre⟩:∃pre,c::t.takeWhile aU++(t.dropWhile aU).takeWhile dG++[61]++x.takeWhile dG=pre:=⟨_,rfl⟩
   have hpl:a+pre.length=k:=by rw[<-hpre,<-hk',<-hg',<-hu'];simp;omega
   rw[hpre,LG,<-hdk2]
   cases hv:yw (pg.data.toList.drop k)with
   | none=>
    refine(Rq b a u g k pg sm L w h hG.gp hl hsm ha hu hg hq1 hgl2 hkk hv).mono ?_
    rintro e w' ⟨rfl,hP,hw⟩
    exact⟨rfl,L,hP,hO.kept hw (Xu b),aY hw (Ws hbl)⟩
   | some vq=>
    obtain⟨v,q⟩:=vq
    simp only
    have hvl:v.length+2*qn q<=(pg.data.toList.drop k).length:=VU _ v q hv
    have hql:qn q<=v.length+2*qn q:=by omega
    cases hn:bZ.contains (ah (c::t.takeWhile aU))with
    | true=>
     simp only[if_true]
     refine(Qe b a u g k pg sm L w h hG.gp hl hsm ha hu hg hq1 hgl2 hkk v q hv (by rw[hnm];exact hn) ls hO hls).mono ?_
     rintro e w' ⟨rfl,L',V,hP,hO',hV,hle,hb⟩
     have hcl:(pre++(pg.data.toList.drop k).take (qn q)).length=pre.length+qn q:=by rw[ZZ,aai];omega
     refine⟨rfl,L',V,?_,?_,hV,?_,?_,hb⟩
     ·rw[hcl,show a+(pre.length+qn q)+v.length+qn q=k+v.length+2*qn q from by omega];exact hP
     ·rw[hcl,show a+(pre.length+qn q)=k+qn q from by omega];exact hO'
     ·rw[hcl,aac];congr 1;omega
     ·rw[hcl];omega
    | false=>
     rw[if_neg (by simp)]
     refine(RP b a u g k pg sm L w h hG.gp hl hsm ha hu hg hq1 hgl2 hkk v q hv (by rw[hnm];exact hn)).mono ?_
     rintro e w' ⟨rfl,hP,hle,hw⟩
     have hcl:(pre++(pg.data.toList.drop k).take (v.length+2*qn q)).length=pre.length+(v.length+2*qn q):=by rw[ZZ,aai];omega
     refine⟨rfl,L,?_,hO.kept hw (Xu b),?_,?_,aY hw (Ws hbl)⟩
     ·rw[hcl,show a+(pre.length+(v.length+2*qn q))=k+v.length+2*qn q from by omega];exact hP
     ·rw[hcl,aac];congr 1;omega
     ·rw[hcl];omega
  ·rw[if_neg h2]
   have hq0:fF isA sm g=false:=by
    rw[hq]
    cases hh:((t.dropWhile aU).dropWhile dG).head? with
    | none=>rfl
    | some d=>
     rw[hh]at h2
     simp only[aan,beq_eq_false_iff_ne]
     exact fun e=>h2 (by rw[e])
   refine(Dc b a u g pg sm L w h hl hs ha hu hg hq0).mono ?_
   rintro e w' ⟨rfl,hP,hw⟩
   have hcl:a+(c::t.takeWhile aU++(t.dropWhile aU).takeWhile dG).length=g:=by rw[<-hg',<-hu'];simp;omega
   refine⟨rfl,L,?_,hO.kept hw (Xu b),?_,?_,aY hw (Ws hbl)⟩
   ·rw[hcl];exact hP
   ·rw[hcl];exact hdg
   ·rw[hcl];exact hgl
theorem Vl(n t c' r:aa)(c:UInt8)(e:Option (aa×Bool))(m:Md)(hc:c≠62)(hk:dw c=false)(h:bi n (c::t)=some (c',e,m,r)):m=some (false,n):=by
 have htk:(c::t).takeWhile dw=[]:=by rw[aag (by rw[hk];simp)]
 have hdk:(c::t).dropWhile dw=c::t:=by rw[aah (by rw[hk];simp)]
 unfold bi at h
 rw[htk,hdk]at h
 simp only[aae]at h
 rw[if_neg hc]at h
 by_cases h1:t.dropWhile aU=[]
 ·rw[if_pos h1]at h;cases h
 ·rw[if_neg h1]at h
  by_cases h2:((t.dropWhile aU).dropWhile dG).head?=some 61
  ·rw[if_pos h2,LG]at h
   split at h
   ·cases h
   ·split at h
    ·simp only[Option.some.injEq,Prod.mk.injEq]at h;exact h.2.2.1.symm
    ·simp only[Option.some.injEq,Prod.mk.injEq]at h;exact h.2.2.1.symm
  ·rw[if_neg h2]at h
   simp only[Option.some.injEq,Prod.mk.injEq]at h;exact h.2.2.1.symm
theorem Kh(n t:aa)(its:List dD)(tl:aa)(hR:Run (some (false,n)) (62::t) its tl):
  (eu.contains n=false->∃its' tl',Run none t its' tl'/\∀k,aC k its=aC (k+1) its') /\
  (eu.contains n=true->(iI (60::47::n) (62::t)=none/\∀k,aC k its=[])\/∃x y its' tl',iI (60::47::n) (62::t)=some (x,y)/\Run none y its' tl'/\62::t=x++y/\∀k,aC k its=aC (k+x.length) its'):=by
 have hcl:=qC n [] t (by simp)
 simp only[aae]at hcl
 cases hR with
 | stop _ _ h=>
  have h:bi n (62::t)=none:=h
  rw[hcl]at h;cases h
 | go _ m' _ c r _ e its h hr=>
  have h:bi n (62::t)=some (c,e,m',r):=h
  rw[hcl]at h
  simp only[Option.some.injEq,Prod.mk.injEq]at h
  obtain⟨rfl,rfl,rfl,rfl⟩:=h
  refine⟨fun hn=>?_,fun hn=>?_⟩
  ·rw[hn]at hr
   exact⟨its,tl,hr,fun k=>rfl⟩
  ·rw[hn]at hr
   simp only[if_true]at hr
   rw[Uu]
   cases hr with
   | stop _ _ h=>
    have h:dF n t=none:=h
    unfold dF at h
    rw[aam.1 h]
    exact .inl ⟨rfl,fun k=>rfl⟩
   | go _ m2 _ c2 r2 _ e2 its2 h2 hr2=>
    have h2:dF n t=some (c2,e2,m2,r2):=h2
    unfold dF at h2
    obtain⟨q,hq,he⟩:=aal.1 h2
    simp only[Prod.mk.injEq]at he
    obtain⟨rfl,rfl,rfl,rfl⟩:=he
    rw[hq]
    refine .inr ⟨62::q.1,q.2,its2,tl,rfl,hr2,?_,fun k=>?_⟩
    ·rw[aaj,<-(lu _ _ q.1 q.2 hq).1]
    ·show aC (k+1+q.1.length) its2=_
     rw[Z7,ZW k,Nat.add_comm 1]
theorem Wt(ls:List Lk)(k:Nat)(its:List dD)(ALL:List (Nat×Nat×aa))(h:ls.map lk2++aC k its=ALL)(hA:ALL.length<=100000000):ls.length<=100000000:=by
 have:=congrArg List.length h
 rw[ZZ,List.length_map]at this
 omega
def Sg(pg sm:ByteArray)(b k:Nat)(w:World)(n:aa)(ALL:List (Nat×Nat×aa))(e:Ending)(w':World):Prop:=
 e=.returned (.tuple #[])/\∃k1 L' ls' its' tl',PR w' b pg sm k1 L'/\gD w' (b+1) L' ls'/\k<k1/\k1<=pg.size/\Run (some (false,n)) (pg.data.toList.drop k1) its' tl'/\ls'.map lk2++aC k1 its'=ALL/\Below b w w'
theorem Pq(b k:Nat)(pg sm:ByteArray)(L:Value)(w:World)(h:PR w b pg sm k L)(hG:PGB w b)(hl:pg.size<=100000000)(hsm:sm.data.toList=ah pg.data.toList)(n t:aa)(c:UInt8)(hd:pg.data.toList.drop k=c::t)(hc:c≠62)(hk:dw c=false)(ls:List Lk)(hO:gD w (b+1) L ls)(its:List dD)(tl:aa)(hR:Run (some (false,n)) (pg.data.toList.drop k) its tl)(ALL:List (Nat×Nat×aa))(hA:ls.map lk2++aC k its=ALL)(hAl:ALL.length<=100000000):
  Calls prog 218 #[.pointer (some ⟨b,0,none⟩)] w (Sg pg sm b k w n ALL):=by
 have hll:=Wt ls k its ALL hA hAl
 have hkl:k<pg.size:=by
  have e:=congrArg List.length hd
  rw[Z0,ae,Z7]at e
  omega
 refine(Sv b k pg sm L w h hG hl hsm n t c hd hc hk ls hO (by omega)).mono ?_
 rw[hd]at hR
 intro e w' hp
 cases hR with
 | stop _ _ h0=>
  have h0:bi n (c::t)=none:=h0
  rw[h0]at hp
  obtain⟨rfl,L',hP,hO',hb⟩:=hp
  refine⟨rfl,pg.size,L',ls,[],[],hP,hO',hkl,ZV _,?_,hA,hb⟩
  rw[aak (by rw[ae];exact ZV _)]
  exact Oc _
 | go _ m' _ c' r _ e' its' h0 hr=>
  have h0:bi n (c::t)=some (c',e',m',r):=h0
  have hm:=Vl n t c' r c e' m' hc hk h0
  subst hm
  rw[h0]at hp
  match e' with
  | none=>
   obtain⟨rfl,L',hP,hO',hdr,hle,hb⟩:=hp
   have hne:=aaa.2 (tJ n _ c' r r _ h0 rfl).2.1
   exact⟨rfl,_,L',ls,its',tl,hP,hO',by omega,hle,by rw[hdr];exact hr,hA,hb⟩
  | some (v,q)=>
   obtain⟨rfl,L',V,hP,hO',hV,hdr,hle,hb⟩:=hp
   have hne:=aaa.2 (r9 n _ c' r v q _ h0).2.1
   refine⟨rfl,_,L',_,its',tl,hP,hO',by omega,hle,by rw[hdr];exact hr,?_,hb⟩
   rw[<-hA,List.map_append,List.append_assoc]
   congr 1
   show[(k+c'.length,v.length,V.data.toList)]++_=_
   rw[hV]
   rfl
def fH(pg sm:ByteArray)(b a:Nat)(w:World)(ALL:List (Nat×Nat×aa))(e:Ending)(w':World):Prop:=
 e=.returned (.tuple #[])/\∃L' ls' a' z r its tl,PR w' b pg sm a' L'/\gD w' (b+1) L' ls'/\a<=a'/\a'<=pg.size/\pg.data.toList.drop a'=z++r/\60∉z/\Run none r its tl/\ls'.map lk2++aC (a'+z.length) its=ALL/\Below b w w'
def TZ:ByteArray:=⟨#[97,98,99,100,101,102,103,104,105,106,107,108,109,110,111,112,113,114,115,116,117,118,119,120,121,122,48,49,50,51,52,53,54,55,56,57]⟩
def sQ:ByteArray:=⟨#[32,9,13,10,47]⟩
def J6:ByteArray:=⟨#[62]⟩
structure O8(pg:ByteArray)(n:aa)(ALL:List (Nat×Nat×aa))(k:Nat)(ls:List Lk):Prop where
 hd:(pg.data.toList.drop k).head?.all (fun c=>!dw c)=true
 run:∃its tl,Run (some (false,n)) (pg.data.toList.drop k) its tl/\ls.map lk2++aC k its=ALL
theorem Vh(pg sm:ByteArray)(hsm:sm.data.toList=ah pg.data.toList)(n:aa)(ALL:List (Nat×Nat×aa))(k:Nat)(ls:List Lk)(its:List dD)(tl:aa)(hR:Run (some (false,n)) (pg.data.toList.drop k) its tl)(hA:ls.map lk2++aC k its=ALL):O8 pg n ALL (k+lM sQ.data.toList sm.data.toList k) ls:=by
 have hr:lM sQ.data.toList sm.data.toList k=((pg.data.toList.drop k).takeWhile dw).length:=by
  have:=uH Uy dw Xb pg.data.toList k
  rw[<-hsm]at this
  exact this
 have hd:pg.data.toList.drop (k+((pg.data.toList.drop k).takeWhile dw).length)=(pg.data.toList.drop k).dropWhile dw:=ig _ k _ _ (by rw[Z5])
 rw[hr]
 refine⟨by rw[hd];exact fe _,?_⟩
 obtain⟨its',tl',h1,h2⟩:=Uk n _ its tl hR
 exact⟨its',tl',by rw[hd];exact h1,by rw[h2];exact hA⟩
theorem qd(pg sm:ByteArray)(b a:Nat)(w w':World)(ALL:List (Nat×Nat×aa))(L:Value)(ls:List Lk)(h:PR w' b pg sm pg.size L)(hO:gD w' (b+1) L ls)(ha:a<=pg.size)(hA:ls.map lk2=ALL)(hb:Below b w w'):fH pg sm b a w ALL (.returned (.tuple #[])) w':=
 ⟨rfl,L,ls,pg.size,[],[],[],[],h,hO,ha,ZV _,by rw[aak (by rw[ae];exact ZV _)];rfl,by simp,Oc _,by rw[aC,Z4];exact hA,hb⟩
theorem Sk(pg sm:ByteArray)(b a k:Nat)(w w':World)(ALL:List (Nat×Nat×aa))(L:Value)(ls:List Lk)(n t:aa)(hd:pg.data.toList.drop k=62::t)(hT:O8 pg n ALL k ls)(hn:eu.contains n=false)(h:PR w' b pg sm k L)(hO:gD w' (b+1) L ls)(ha:a<=k)(hk:k<=pg.size)(hb:Below b w w'):fH pg sm b a w ALL (.returned (.tuple #[])) w':=by
 obtain⟨its,tl,hR,hA⟩:=hT.run
 rw[hd]at hR
 obtain⟨its',tl',h1,h2⟩:=(Kh n t its tl hR).1 hn
 exact⟨rfl,L,ls,k,[62],t,its',tl',h,hO,ha,hk,hd,by simp,h1,by rw[<-hA,h2];rfl,hb⟩
theorem SV(pg sm:ByteArray)(hsm:sm.data.toList=ah pg.data.toList)(b a k:Nat)(w w':World)(ALL:List (Nat×Nat×aa))(L:Value)(ls:List Lk)(n t:aa)(hd:pg.data.toList.drop k=62::t)(hT:O8 pg n ALL k ls)(hn:eu.contains n=true)(h:PR w' b pg sm (l9 (60::47::n) sm.data.toList pg.size k) L)(hO:gD w' (b+1) L ls)(ha:a<=k)(hk:k<=pg.size)(hb:Below b w w'):fH pg sm b a w ALL (.returned (.tuple #[])) w':=by
 obtain⟨its,tl,hR,hA⟩:=hT.run
 rw[hd]at hR
 have hix:Lib.index (sm.data.toList.drop k) (60::47::n)=match iI (60::47::n) (62::t)with|none=>-1|some q=>(q.1.length:Int):=by
  have e:sm.data.toList.drop k=ah (62::t):=by rw[hsm,<-hd];unfold ah;rw[aad]
  rw[e]
  exact Ac _ _ (by simp)
 have hs:sm.data.toList.length=pg.size:=by rw[hsm,gF,ae]
 have hle:=WP (60::47::n) sm.data.toList pg.size k hs hk
 unfold l9 at h hle
 rw[hix]at h hle
 rcases(Kh n t its tl hR).2 hn with⟨h1,h2⟩|⟨x,y,its',tl',h1,h2,h3,h4⟩
 ·rw[h1]at h
  exact qd pg sm b a w w' ALL L ls h hO (by omega) (by rw[<-hA,h2,Z4]) hb
 ·rw[h1]at h hle
  have h0:(0:Int)<=((x.length:Nat):Int):=by omega
  simp only[h0,if_true,VQ]at h hle
  exact⟨rfl,L,ls,k+x.length,[],y,its',tl',h,hO,by omega,hle,ig _ k x y (by rw[hd];exact h3),by simp,h2,by rw[<-hA,h4];rfl,hb⟩
theorem XJ(b a:Nat)(pg sm:ByteArray)(L:Value)(w:World)(h:PR w b pg sm a L)(hG:PGB w b)(hl:pg.size<=100000000)(hsm:sm.data.toList=ah pg.data.toList)(ha:a<=pg.size)(n rem:aa)(hn:ah ((pg.data.toList.drop a).takeWhile cB)=n)(hr:(pg.data.toList.drop a).dropWhile cB=rem)(ls:List Lk)(hO:gD w (b+1) L ls)(its:List dD)(tl:aa)(hR:Run (some (false,n)) rem its tl)(ALL:List (Nat×Nat×aa))(hA:ls.map lk2++aC (a+n.length) its=ALL)(hAl:ALL.length<=100000000):
  Calls prog 161 #[.pointer (some ⟨b,0,none⟩)] w (fH pg sm b a w ALL):=by
 have hs:sm.size=pg.size:=by rw[<-ae,hsm,<-ae];unfold ah;simp
 have hnl:n.length=((pg.data.toList.drop a).takeWhile cB).length:=by rw[<-hn,gF]
 have hu:a+lM TZ.data.toList sm.data.toList a=a+n.length:=by
  have:=uH Vz cB WU pg.data.toList a
  rw[<-hsm,<-hnl]at this
  exact congrArg (a+·) this
 have hdu:pg.data.toList.drop (a+n.length)=rem:=by rw[hnl];exact ig _ a _ _ (by rw[<-hr,Z5])
 obtain⟨u,hu'⟩:∃u,a+n.length=u:=⟨_,rfl⟩
 rw[hu']at hu hdu hA
 rw[<-hdu]at hR
 have hnm:(sm.extract a u).data.toList=n:=by
  rw[aB,JM pg sm hsm,show u - a=((pg.data.toList.drop a).takeWhile cB).length from by omega,qD]
  exact hn
 have hT0:=Vh pg sm hsm n ALL u ls its tl hR hA
 have hbl:=h.cells.2.2.2.2.2.2
 have HU:=Box.m hu
 have HT0:=Box.m hT0
 have HNM:=Box.m hnm
 have HS:=Box.m hsm
 have HG:=Box.m hG
 have HO:=Box.m hO
 have HP:=Box.m h
 have HAl:=Box.m hAl
 obtain⟨c0,c1,c2,c3,f2,f3,hb⟩:=h.cells
 clear hu hdu hA hR hT0 hnm hr hn hsm hG hO h hAl hnl
 go_enter func161,ntmps161
 go_wp2_with fail
 refine(jI b a pg sm TZ L _ HP.o hl hs ha).mono ?_
 rw[HU.o]
 rintro e w2 ⟨rfl,hP2,hu2,hg2⟩
 have HP2:=Box.m hP2
 clear hP2 c0 c1 c2 c3 f2 f3
 obtain⟨d0,d1,d2,d3,g2,g3,hb2⟩:=HP2.o.cells
 have k1:(0:Int)<=(a:Int):=by omega
 have k2:(a:Int)<=(u:Int):=by omega
 have k3:(u:Int)<=(sm.size:Int):=by omega
 go_wp2_with fail
 go_region
 go_wp2_with fail
 have HP3:=Box.m (HP2.o.below (Below.refl w2.heap.size w2).drew hb2)
 have hg03:=hg2.trans (aL (Below.refl w2.heap.size w2).drew (some b))
 refine(jI b u pg sm sQ L _ HP3.o hl hs hu2).mono ?_
 rintro e w4 ⟨rfl,hP4,hu4,hg4⟩
 have hg04:=hg03.trans hg4
 have HO4:=HO.o.kept hg04 (Xu b)
 have hbw4:=aY hg04 (Ws hb)
 have hua:a<=u+lM sQ.data.toList sm.data.toList u:=by omega
 have HT4:=HT0
 generalize u+lM sQ.data.toList sm.data.toList u=k0 at hP4 hu4 hua HT4
 clear hg2 hg4 hg03 hg04 HP3 HP2 d0 d1 d2 d3 g2 g3 HT0
 go_wp2
 go_loopg [] (pg.size - k0) (fun gf wx=>∃k L ls,a<=k/\k<=pg.size/\PR wx b pg sm k L/\gD wx (b+1) L ls/\Box (O8 pg n ALL k ls)/\Below b w wx/\pg.size - k<=gf)
 case atStart=>exact⟨k0,L,ls,hua,hu4,hP4,HO4,HT4,hbw4,ZV _⟩
 case round=>
  clear HO4 hP4 HT4 hbw4 HP HO
  obtain⟨k,L,ls,hak,hk,hr,hO,HT,hbw,hgf⟩:=hrel
  have hblt:=hr.cells.2.2.2.2.2.2
  have hq:=jT J6 sm _ Zo pg.data.toList HS.o k
  have HR:=Box.m hr
  have HO:=Box.m hO
  have HGr:=Box.m (HG.o.below hbw)
  clear hr hO
  cases hd:pg.data.toList.drop k with
  | nil=>
   rw[hd]at hq
   have hkk:k=pg.size:=by
    have e:=congrArg List.length hd
    rw[Z0,ae]at e
    simp at e;omega
   have hq0:fF J6 sm k=false:=by rw[hq];rfl
   have HQ:=Box.m hq0
   have HD:=Box.m hd
   have hdt:decide (k=pg.size)=true:=decide_eq_true hkk
   clear hq hq0 hd
   have hb5:=(Below.refl wr.heap.size wr).drew
   go_wp2_with fail
   refine(cZ b k pg sm J6 L _ HR.o hs hk).mono ?_
   rw[HQ.o]
   rintro e w5 ⟨rfl,hb5⟩
   have HR5:=Box.m (HR.o.below hb5 hblt)
   have HO5:=Box.m (HO.o.below hb5 af)
   have hbw5:Below b w w5:=hbw.trans (hb5.mono (Ws hblt))
   have hblt5:b<w5.heap.size:=ZX hblt hb5.size
   go_wp2_with fail
   refine(gM b k pg sm L _ HR5.o).mono ?_
   rw[hdt]
   rintro e w6 ⟨rfl,rfl⟩
   have hb6:=(Below.refl w5.heap.size w5).drew
   have HE:Box (fH pg sm b a w ALL (.returned (.tuple #[])) w5.drew):=⟨by
    obtain⟨its,tl,hR,hA⟩:=HT.o.run
    rw[HD.o]at hR
    have hit:its=[]:=by
     cases hR with
     | stop _ _ _=>rfl
     | go _ _ _ _ _ _ _ _ h0 _=>cases h0
    subst hit
    rw[aC,Z4]at hA
    have hP6:=HR5.o.below hb6 hblt5
    rw[hkk]at hP6
    exact qd pg sm b a w _ ALL L ls hP6 (HO5.o.below hb6 af) ha hA (hbw5.trans (hb6.mono (Ws hblt5)))⟩
   go_wp2
   exact bodyPost_ret (v:=.tuple #[]) (by simp[results,results161,go_sem]) rfl HE.o
  | cons c t=>
   rw[hd]at hq
   have hkl:k<pg.size:=by
    have e:=congrArg List.length hd
    rw[Z0,ae,Z7]at e
    omega
   have HD:=Box.m hd
   have hcs:dw c=false:=by
    have:=HT.o.hd
    rw[hd]at this
    simpa using this
   clear hd
   by_cases hc:c=62
   ·subst hc
    have HQ:Box (fF J6 sm k=true):=⟨by rw[hq];rfl⟩
    clear hq hcs
    go_wp2_with fail
    refine(cZ b k pg sm J6 L _ HR.o hs hk).mono ?_
    rw[HQ.o]
    rintro e w5 ⟨rfl,hb5⟩
    have HR5:=Box.m (HR.o.below hb5 hblt)
    have HO5:=Box.m (HO.o.below hb5 af)
    have hbw5:Below b w w5:=hbw.trans (hb5.mono (Ws hblt))
    have hblt5:b<w5.heap.size:=ZX hblt hb5.size
    have HG5:=Box.m (HG.o.below hbw5)
    cases hnv:eu.contains n
    ·have HE:Box (fH pg sm b a w ALL (.returned (.tuple #[])) w5):=⟨Sk pg sm b a k w w5 ALL L ls n t HD.o HT.o hnv HR5.o HO5.o hak hk hbw5⟩
     have HNV:Box (eu.contains (sm.extract a u).data.toList=false):=⟨by rw[HNM.o];exact hnv⟩
     clear hnv
     go_wp2_with (go_at_call 219;refine(uk _ _ HG5.o.gp.verbs).mono ?_;rw[HNV.o];rintro e w9 ⟨rfl,rfl⟩)
     go_end0
     exact HE.o
    ·have HNV:Box (eu.contains (sm.extract a u).data.toList=true):=⟨by rw[HNM.o];exact hnv⟩
     have HN2:=Box.m hnv
     clear hnv
     go_wp2_with (go_at_call 219;refine(uk _ _ HG5.o.gp.verbs).mono ?_;rw[HNV.o];rintro e w9 ⟨rfl,rfl⟩)
     have HTx:Box (((⟨#[60,47]⟩:ByteArray)++sm.extract a u).data.toList=60::47::n):=⟨by rw[aao,aaq,HNM.o];rfl⟩
     refine(sI b k pg sm _ L _ HR5.o hl hs hk HG5.o.gp.mx).mono ?_
     rw[HTx.o]
     rintro e w10 ⟨rfl,hP10,hg10⟩
     have HE:Box (fH pg sm b a w ALL (.returned (.tuple #[])) w10):=⟨SV pg sm HS.o b a k w w10 ALL L ls n t HD.o HT.o HN2.o hP10 (HO5.o.kept hg10 (Xu b)) hak hk (hbw5.trans (aY hg10 (Ws hblt5)))⟩
     clear hP10 hg10
     go_wp2
     go_end0
     exact HE.o
   ·have HQ:Box (fF J6 sm k=false):=⟨by rw[hq];simp[hc]⟩
    have hdt:decide (k=pg.size)=false:=decide_eq_false (by omega)
    clear hq
    go_wp2_with fail
    refine(cZ b k pg sm J6 L _ HR.o hs hk).mono ?_
    rw[HQ.o]
    rintro e w5 ⟨rfl,hb5⟩
    have HR5:=Box.m (HR.o.below hb5 hblt)
    have HO5:=Box.m (HO.o.below hb5 af)
    have hbw5:Below b w w5:=hbw.trans (hb5.mono (Ws hblt))
    have hblt5:b<w5.heap.size:=ZX hblt hb5.size
    go_wp2_with fail
    refine(gM b k pg sm L _ HR5.o).mono ?_
    rw[hdt]
    rintro e w6 ⟨rfl,rfl⟩
    have hb6:=(Below.refl w5.heap.size w5).drew
    have HR6:=Box.m (HR5.o.below hb6 hblt5)
    have HO6:=Box.m (HO5.o.below hb6 af)
    have hbw6:=hbw5.trans (hb6.mono (Ws hblt5))
    have HG6:=Box.m (HG.o.below hbw6)
    obtain⟨its,tl,hR,hA⟩:=HT.o.run
    have HRR:=Box.m hR
    have HA:=Box.m hA
    clear hR hA HR5 HO5 HR HO
    go_wp2_with fail
    refine(Pq b k pg sm L _ HR6.o HG6.o hl HS.o n t c HD.o hc hcs ls HO6.o its tl HRR.o ALL HA.o HAl.o).mono ?_
    rintro e w7 ⟨rfl,k7,L7,ls7,its7,tl7,hP7,hO7,hk7,hl7,hR7,hA7,hb7⟩
    have HT7:=Box.m (Vh pg sm HS.o n ALL k7 ls7 its7 tl7 hR7 hA7)
    have HP7:=Box.m hP7
    have HO7:=Box.m hO7
    have hbw7:=hbw6.trans hb7
    have hblt7:=hP7.cells.2.2.2.2.2.2
    clear hP7 hO7 hR7 hA7
    go_wp2_with fail
    refine(jI b k7 pg sm sQ L7 _ HP7.o hl hs hl7).mono ?_
    rintro e w8 ⟨rfl,hP8,hu8,hg8⟩
    have hO8:=HO7.o.kept hg8 (Xu b)
    have hbw8:=hbw7.trans (aY hg8 (Ws hblt7))
    have hk8:k<k7+lM sQ.data.toList sm.data.toList k7:=by omega
    generalize k7+lM sQ.data.toList sm.data.toList k7=k8 at hP8 hu8 HT7 hk8
    go_wp2
    go_roundg (pg.size - k - 1)
    case measure=>omega
    case rel=>exact⟨k8,L7,ls7,by omega,hu8,hP8,hO8,HT7,hbw8,by omega⟩
theorem wU(pg sm:ByteArray)(hsm:sm.data.toList=ah pg.data.toList)(sub:aa)(h0:sub≠[])(hf:∀c∈sub,Bz c)(k:Nat):(Lib.index (sm.data.toList.drop k) sub=match bu sub (pg.data.toList.drop k)with|none=>-1|some q=>(q.1.length:Int))/\l9 sub sm.data.toList pg.size k=match bu sub (pg.data.toList.drop k)with|none=>pg.size|some q=>k+q.1.length:=by
 have e:sm.data.toList.drop k=ah (pg.data.toList.drop k):=by rw[hsm];unfold ah;rw[aad]
 have h:=Ac sub (pg.data.toList.drop k) h0
 rw[JL sub hf,<-e]at h
 refine⟨h,?_⟩
 unfold l9
 rw[h]
 cases bu sub (pg.data.toList.drop k)with
 | none=>rfl
 | some q=>
  have h0:(0:Int)<=((q.1.length:Nat):Int):=by omega
  simp only[h0,if_true,VQ]
theorem xn(rest:aa):bu [60] (60::rest)=some ([],60::rest):=by
 unfold bu
 rw[if_pos (by simp[List.isPrefixOf])]
theorem Xa(its:List dD)(tl:aa)(h:Run none [60] its tl):its=[]:=by
 cases h with
 | stop _ _ _=>rfl
 | go _ m' _ c r _ e its h0 _=>
  have h0:aR [60]=some (c,e,m',r):=h0
  unfold aR at h0
  rw[xn]at h0
  cases h0
theorem Sq(p:aa)(its:List dD)(tl:aa)(h:Run none (60::33::45::45::p) its tl):(bu [45,45,62] p=none/\its=[])\/∃x y its' tl',bu [45,45,62] p=some (x,[45,45,62]++y)/\Run none y its' tl'/\p=x++([45,45,62]++y)/\∀k,aC k its=aC (k+4+x.length+3) its':=by
 have hst:aR (60::33::45::45::p)=(bu [45,45,62] p).map fun q=>([]++[60,33,45,45]++q.1++[45,45,62],none,none,q.2.drop 3):=by
  unfold aR
  rw[xn]
  simp only[Z8,Z9]
  rw[if_pos (by simp[List.isPrefixOf])]
 cases h with
 | stop _ _ h0=>
  have h0:aR (60::33::45::45::p)=none:=h0
  rw[hst]at h0
  exact .inl ⟨aam.1 h0,rfl⟩
 | go _ m' _ c r _ e its h0 hr=>
  have h0:aR (60::33::45::45::p)=some (c,e,m',r):=h0
  rw[hst]at h0
  obtain⟨q,hq,he⟩:=aal.1 h0
  simp only[Prod.mk.injEq]at he
  obtain⟨rfl,rfl,rfl,rfl⟩:=he
  obtain⟨y,hy⟩:=F5 _ _ q.1 q.2 hq
  have hs:=(gG _ _ q.1 q.2 hq).1
  rw[hy]at hs hr
  refine .inr ⟨q.1,y,its,tl,by rw[hq,<-hy],hr,hs,fun k=>?_⟩
  show aC (k+_) its=_
  congr 1
  simp
  omega
theorem R5(c:UInt8)(t:aa)(hp:[33,45,45].isPrefixOf (c::t)=false)(hc:c=47\/c=33\/c=63)(its:List dD)(tl:aa)(h:Run none (60::c::t) its tl):(bu [62] (c::t)=none/\its=[])\/∃x y its' tl',bu [62] (c::t)=some (x,62::y)/\Run none y its' tl'/\c::t=x++62::y/\∀k,aC k its=aC (k+1+x.length+1) its':=by
 have hst:aR (60::c::t)=(bu [62] (c::t)).map fun q=>([]++[60]++q.1++[62],none,none,q.2.drop 1):=by
  unfold aR
  rw[xn]
  simp only[Z8,Z9]
  rw[if_neg (by rw[hp];simp),if_pos hc]
 cases h with
 | stop _ _ h0=>
  have h0:aR (60::c::t)=none:=h0
  rw[hst]at h0
  exact .inl ⟨aam.1 h0,rfl⟩
 | go _ m' _ c' r _ e its h0 hr=>
  have h0:aR (60::c::t)=some (c',e,m',r):=h0
  rw[hst]at h0
  obtain⟨q,hq,he⟩:=aal.1 h0
  simp only[Prod.mk.injEq]at he
  obtain⟨rfl,rfl,rfl,rfl⟩:=he
  obtain⟨y,hy⟩:=mP 62 _ q.1 q.2 hq
  have hs:=(gG _ _ q.1 q.2 hq).1
  rw[hy]at hs hr
  refine .inr ⟨q.1,y,its,tl,by rw[hq,<-hy],hr,hs,fun k=>?_⟩
  show aC (k+_) its=_
  congr 1
  simp
  omega
theorem Oy(c:UInt8)(t:aa)(hc:c≠33):[33,45,45].isPrefixOf (c::t)=false:=by
 simp only[List.isPrefixOf,Bool.and_eq_false_imp,beq_iff_eq]
 intro e
 exact absurd e.symm hc
theorem XE(c:UInt8)(t:aa)(hc:¬(c=47\/c=33\/c=63))(hal:Ce c=true)(its:List dD)(tl:aa)(h:Run none (60::c::t) its tl):∃its' tl',Run (some (false,ah ((c::t).takeWhile cB))) ((c::t).dropWhile cB) its' tl'/\∀k,aC k its=aC (k+1+(ah ((c::t).takeWhile cB)).length) its':=by
 have hst:aR (60::c::t)=some ([]++[60]++(c::t).takeWhile cB,none,some (false,ah ((c::t).takeWhile cB)),(c::t).dropWhile cB):=by
  unfold aR
  rw[xn]
  simp only[Z8,Z9]
  rw[if_neg (by rw[Oy c t (fun e=>hc (.inr (.inl e)))];simp),if_neg hc,if_pos hal]
 cases h with
 | stop _ _ h0=>
  have h0:aR (60::c::t)=none:=h0
  rw[hst]at h0;cases h0
 | go _ m' _ c' r _ e its h0 hr=>
  have h0:aR (60::c::t)=some (c',e,m',r):=h0
  rw[hst]at h0
  simp only[Option.some.injEq,Prod.mk.injEq]at h0
  obtain⟨rfl,rfl,rfl,rfl⟩:=h0
  refine⟨its,tl,hr,fun k=>?_⟩
  show aC (k+_) its=_
  rw[gF]
  congr 1
  simp
  omega
theorem Tq(c:UInt8)(t:aa)(hc:¬(c=47\/c=33\/c=63))(hal:Ce c=false)(its:List dD)(tl:aa)(h:Run none (60::c::t) its tl):∃its' tl',Run none (c::t) its' tl'/\∀k,aC k its=aC (k+1) its':=by
 have hst:aR (60::c::t)=some ([]++[60],none,none,c::t):=by
  unfold aR
  rw[xn]
  simp only[Z8,Z9]
  rw[if_neg (by rw[Oy c t (fun e=>hc (.inr (.inl e)))];simp),if_neg hc,if_neg (by rw[hal];simp)]
 cases h with
 | stop _ _ h0=>
  have h0:aR (60::c::t)=none:=h0
  rw[hst]at h0;cases h0
 | go _ m' _ c' r _ e its h0 hr=>
  have h0:aR (60::c::t)=some (c',e,m',r):=h0
  rw[hst]at h0
  simp only[Option.some.injEq,Prod.mk.injEq]at h0
  obtain⟨rfl,rfl,rfl,rfl⟩:=h0
  exact⟨its,tl,hr,fun k=>rfl⟩
def OL:ByteArray:=⟨#[33,45,45]⟩
def ZL:ByteArray:=⟨#[45,45,62]⟩
def ym:ByteArray:=⟨#[47,33,63]⟩
def lH:ByteArray:=⟨#[97,98,99,100,101,102,103,104,105,106,107,108,109,110,111,112,113,114,115,116,117,118,119,120,121,122]⟩
theorem QF(pg sm:ByteArray)(hsm:sm.data.toList=ah pg.data.toList)(b k:Nat)(w w':World)(ALL:List (Nat×Nat×aa))(L:Value)(ls:List Lk)(p:aa)(hd:pg.data.toList.drop (k+1)=33::45::45::p)(its:List dD)(tl:aa)(hR:Run none (60::pg.data.toList.drop (k+1)) its tl)(hA:ls.map lk2++aC k its=ALL)(h:PR w' b pg sm (l9 [45,45,62] sm.data.toList pg.size (k+1+3)) L)(hO:gD w' (b+1) L ls)(hk:k+1+3<=pg.size)(hb:Below b w w'):fH pg sm b (k+1) w ALL (.returned (.tuple #[])) w':=by
 have hsk:=(wU pg sm hsm [45,45,62] (by simp) (by intro c hc;simp at hc;rcases hc with rfl|rfl;exact Wm;exact O5) (k+1+3)).2
 have hdp:pg.data.toList.drop (k+1+3)=p:=ig _ (k+1) [33,45,45] p hd
 rw[hdp]at hsk
 rw[hd]at hR
 rcases Sq p its tl hR with⟨h1,rfl⟩|⟨x,y,its',tl',h1,h2,h3,h4⟩
 ·rw[hsk,h1]at h
  exact qd pg sm b (k+1) w w' ALL L ls h hO (by omega) (by rw[<-hA,aC,Z4]) hb
 ·rw[hsk,h1]at h
  have hdx:=ig _ (k+1+3) x _ (hdp.trans h3)
  refine⟨rfl,L,ls,k+1+3+x.length,[45,45,62],y,its',tl',h,hO,by omega,?_,hdx,by simp,h2,?_,hb⟩
  ·have e:=congrArg List.length hdp
   rw[Z0,ae,h3]at e
   simp at e
   omega
  ·rw[<-hA,h4];rfl
theorem PG(pg sm:ByteArray)(hsm:sm.data.toList=ah pg.data.toList)(b k:Nat)(w w':World)(ALL:List (Nat×Nat×aa))(L:Value)(ls:List Lk)(c:UInt8)(t:aa)(hd:pg.data.toList.drop (k+1)=c::t)(hp:[33,45,45].isPrefixOf (c::t)=false)(hc:c=47\/c=33\/c=63)(its:List dD)(tl:aa)(hR:Run none (60::pg.data.toList.drop (k+1)) its tl)(hA:ls.map lk2++aC k its=ALL)(h:PR w' b pg sm (l9 [62] sm.data.toList pg.size (k+1)) L)(hO:gD w' (b+1) L ls)(hk:k+1<=pg.size)(hb:Below b w w'):fH pg sm b (k+1) w ALL (.returned (.tuple #[])) w':=by
 have hsk:=(wU pg sm hsm [62] (by simp) (by intro c hc;simp at hc;rw[hc];exact O5) (k+1)).2
 rw[hd]at hR hsk
 rcases R5 c t hp hc its tl hR with⟨h1,rfl⟩|⟨x,y,its',tl',h1,h2,h3,h4⟩
 ·rw[hsk,h1]at h
  exact qd pg sm b (k+1) w w' ALL L ls h hO hk (by rw[<-hA,aC,Z4]) hb
 ·rw[hsk,h1]at h
  have hdx:=ig _ (k+1) x _ (hd.trans h3)
  refine⟨rfl,L,ls,k+1+x.length,[62],y,its',tl',h,hO,by omega,?_,hdx,by simp,h2,?_,hb⟩
  ·have e:=congrArg List.length hd
   rw[Z0,ae,h3]at e
   simp at e
   omega
  ·rw[<-hA,h4];rfl
theorem SN(b k:Nat)(pg sm:ByteArray)(L:Value)(w:World)(h:PR w b pg sm (k+1) L)(hG:PGB w b)(hl:pg.size<=100000000)(hsm:sm.data.toList=ah pg.data.toList)(ha:k+1<=pg.size)(ls:List Lk)(hO:gD w (b+1) L ls)(its:List dD)(tl:aa)(hR:Run none (60::pg.data.toList.drop (k+1)) its tl)(ALL:List (Nat×Nat×aa))(hA:ls.map lk2++aC k its=ALL)(hAl:ALL.length<=100000000):
  Calls prog 95 #[.pointer (some ⟨b,0,none⟩)] w (fH pg sm b (k+1) w ALL):=by
 have hs:sm.size=pg.size:=by rw[<-ae,hsm,<-ae];unfold ah;simp
 obtain⟨a,hka⟩:∃a,a=k+1:=⟨_,rfl⟩
 rw[<-hka]at h ha
 have ex:(pg.extract a pg.size).data.toList=pg.data.toList.drop a:=by
  rw[aB,List.take_of_length_le (by rw[Z0,ae];exact ZV _)]
 obtain⟨c0,c1,c2,c3,f2,f3,hb⟩:=h.cells
 have HS:=Box.m hsm
 have HG:=Box.m hG
 have HO:=Box.m hO
 have HP:=Box.m h
 have HAl:=Box.m hAl
 have HA:=Box.m hA
 have HR:=Box.m hR
 have HX:=Box.m ex
 have k1:(0:Int)<=(a:Int):=by omega
 have k2:(a:Int)<=(pg.size:Int):=by omega
 have hb1:=(Below.refl w.heap.size w).drew
 have HP1:=Box.m (HP.o.below hb1 hb)
 have HO1:=Box.m (HO.o.below hb1 af)
 have hbw1:Below b w w.drew:=hb1.mono (Ws hb)
 have HG1:=Box.m (HG.o.below hbw1)
 have HKA:=Box.m hka
 clear hsm hG hO h hAl hA hR ex hka
 cases hpp:[33,45,45].isPrefixOf (pg.data.toList.drop a)
 ·have HPP:Box (Lib.hasPrefix (pg.extract a pg.size).data.toList OL.data.toList=false):=⟨by rw[HX.o];exact hpp⟩
  have HPF:=Box.m hpp
  clear hpp
  go_enter func95,ntmps95
  go_wp2_with fail
  go_region_held3 (fun w'=>w'.cell? ⟨b,0,none⟩=some (.string pg)/\w'.cell? ⟨b,1,none⟩=some (.string sm)/\w'.cell? ⟨b,2,none⟩=some (.int .i64 (a:Int))/\Below w.heap.size w w')
   ((go_split_ands;exact yP c0 c1 c2 (by first|exact ag.drew|assumption)))
   (first
    | (go_at_call 159;refine(Tryz.strings_HasPrefix _ OL _).mono ?_;rw[HPP.o];rintro e w5 ⟨rfl,rfl⟩))
  cases hd:pg.data.toList.drop a with
  | nil=>
   have HD:=Box.m hd
   have HQ1:Box (fF ym sm a=false):=⟨by rw[jT ym sm _ UV pg.data.toList HS.o a,hd];rfl⟩
   have HQ2:Box (fF lH sm a=false):=⟨by rw[jT lH sm _ VJ pg.data.toList HS.o a,hd];rfl⟩
   clear hd
   go_wp2_with fail
   refine(cZ b a pg sm ym L _ HP1.o hs ha).mono ?_
   rw[HQ1.o]
   rintro e w5 ⟨rfl,hb5⟩
   have HP5:=Box.m (HP1.o.below hb5 hb)
   go_wp2_with fail
   refine(cZ b a pg sm lH L _ HP5.o hs ha).mono ?_
   rw[HQ2.o]
   rintro e w6 ⟨rfl,hb6⟩
   have hb56:=hb5.trans (hb6.mono hb5.size)
   have HE:Box (fH pg sm b (k+1) w ALL (.returned (.tuple #[])) w6):=⟨by
    have hR:=HR.o
    rw[<-HKA.o,HD.o]at hR
    have hit:=Xa its tl hR
    have hA:=HA.o
    rw[hit,aC,Z4]at hA
    have hk:a=pg.size:=by
     have e:=congrArg List.length HD.o
     rw[Z0,ae]at e
     simp at e;omega
    have hP6:=HP1.o.below hb56 hb
    rw[hk]at hP6
    exact qd pg sm b (k+1) w _ ALL L ls hP6 (HO1.o.below hb56 af) (by rw[<-HKA.o];exact ha) hA (hbw1.trans (hb56.mono (Ws hb)))⟩
   go_wp2
   go_end0
   exact HE.o
  | cons c t=>
   have HD:=Box.m hd
   have hq1:=jT ym sm _ UV pg.data.toList HS.o a
   have hq2:=jT lH sm _ VJ pg.data.toList HS.o a
   have hpf:[33,45,45].isPrefixOf (c::t)=false:=by rw[<-hd];exact HPF.o
   rw[hd]at hq1 hq2
   have HF:=Box.m hpf
   clear hd hpf
   by_cases hc:c=47\/c=33\/c=63
   ·have HQ1:Box (fF ym sm a=true):=⟨by rw[hq1];rcases hc with rfl|rfl|rfl<;>rfl⟩
    clear hq1 hq2
    have HC:=Box.m hc
    clear hc
    go_wp2_with fail
    refine(cZ b a pg sm ym L _ HP1.o hs ha).mono ?_
    rw[HQ1.o]
    rintro e w5 ⟨rfl,hb5⟩
    have HP5:=Box.m (HP1.o.below hb5 hb)
    have HO5:=Box.m (HO1.o.below hb5 af)
    have hbw5:=hbw1.trans (hb5.mono (Ws hb))
    have hblt5:=HP5.o.cells.2.2.2.2.2.2
    have HG5:=Box.m (HG.o.below hbw5)
    go_wp2_with fail
    refine(sI b a pg sm J6 L _ HP5.o hl hs ha HG5.o.gp.mx).mono ?_
    rintro e w6 ⟨rfl,hP6,hg6⟩
    have HE:Box (fH pg sm b (k+1) w ALL (.returned (.tuple #[])) w6):=⟨by
     have hP:=hP6
     rw[HKA.o]at hP
     exact PG pg sm HS.o b k w w6 ALL L ls c t (by rw[<-HKA.o];exact HD.o) HF.o HC.o its tl HR.o HA.o hP (HO5.o.kept hg6 (Xu b)) (by rw[<-HKA.o];exact ha) (hbw5.trans (aY hg6 (Ws hblt5)))⟩
    clear hP6
    go_wp2
    go_end0
    exact HE.o
   ·have HQ1:Box (fF ym sm a=false):=⟨by
     rw[hq1]
     simp only[List.head?_cons,aan,Bool.or_eq_false_iff,beq_eq_false_iff_ne]
     exact⟨fun e=>hc (.inl e),fun e=>hc (.inr (.inl e)),fun e=>hc (.inr (.inr e))⟩⟩
    have HC:=Box.m hc
    clear hq1 hc
    cases hal:Ce c
    ·have HQ2:Box (fF lH sm a=false):=⟨by rw[hq2];exact hal⟩
     have HL:=Box.m hal
     clear hq2 hal
     go_wp2_with fail
     refine(cZ b a pg sm ym L _ HP1.o hs ha).mono ?_
     rw[HQ1.o]
     rintro e w5 ⟨rfl,hb5⟩
     have HP5:=Box.m (HP1.o.below hb5 hb)
     go_wp2_with fail
     refine(cZ b a pg sm lH L _ HP5.o hs ha).mono ?_
     rw[HQ2.o]
     rintro e w6 ⟨rfl,hb6⟩
     have hb56:=hb5.trans (hb6.mono hb5.size)
     have HE:Box (fH pg sm b (k+1) w ALL (.returned (.tuple #[])) w6):=⟨by
      have hR:=HR.o
      have hD:=HD.o
      rw[HKA.o]at hD
      rw[hD]at hR
      obtain⟨its',tl',h1,h2⟩:=Tq c t HC.o HL.o its tl hR
      have hP6:=HP1.o.below hb56 hb
      rw[HKA.o]at hP6
      exact⟨rfl,L,ls,k+1,[],c::t,its',tl',hP6,HO1.o.below hb56 af,ZV _,by rw[<-HKA.o];exact ha,hD,by simp,h1,by rw[<-HA.o,h2];rfl,hbw1.trans (hb56.mono (Ws hb))⟩⟩
     go_wp2
     go_end0
     exact HE.o
    ·have HQ2:Box (fF lH sm a=true):=⟨by rw[hq2];exact hal⟩
     have HL:=Box.m hal
     clear hq2 hal
     go_wp2_with fail
     refine(cZ b a pg sm ym L _ HP1.o hs ha).mono ?_
     rw[HQ1.o]
     rintro e w5 ⟨rfl,hb5⟩
     have HP5:=Box.m (HP1.o.below hb5 hb)
     go_wp2_with fail
     refine(cZ b a pg sm lH L _ HP5.o hs ha).mono ?_
     rw[HQ2.o]
     rintro e w6 ⟨rfl,hb6⟩
     have hb56:=hb5.trans (hb6.mono hb5.size)
     have HP6:=Box.m (HP1.o.below hb56 hb)
     have HO6:=Box.m (HO1.o.below hb56 af)
     have hbw6:=hbw1.trans (hb56.mono (Ws hb))
     have HG6:=Box.m (HG.o.below hbw6)
     obtain⟨its',tl',h1,h2⟩:∃its' tl',Run (some (false,ah ((c::t).takeWhile cB))) ((c::t).dropWhile cB) its' tl'/\∀k,aC k its=aC (k+1+(ah ((c::t).takeWhile cB)).length) its':=by
      have hR:=HR.o
      rw[<-HKA.o,HD.o]at hR
      exact XE c t HC.o HL.o its tl hR
     have HR2:=Box.m h1
     have HA2:Box (ls.map lk2++aC (a+(ah ((c::t).takeWhile cB)).length) its'=ALL):=⟨by rw[<-HA.o,h2,HKA.o]⟩
     clear h1 h2
     go_wp2_with fail
     refine(XJ b a pg sm L _ HP6.o HG6.o hl HS.o ha _ _ (by rw[HD.o]) (by rw[HD.o]) ls HO6.o its' tl' HR2.o ALL HA2.o HAl.o).mono ?_
     rintro e w7 ⟨rfl,L7,ls7,a7,z7,r7,its7,tl7,q1,q2,q3,q4,q5,q6,q7,q8,q9⟩
     have HE:Box (fH pg sm b (k+1) w ALL (.returned (.tuple #[])) w7):=⟨⟨rfl,L7,ls7,a7,z7,r7,its7,tl7,q1,q2,by rw[<-HKA.o];exact q3,q4,q5,q6,q7,q8,hbw6.trans q9⟩⟩
     clear q1 q2 q3 q4 q5 q6 q7 q8 q9
     go_wp2
     go_end0
     exact HE.o
 ·have HPP:Box (Lib.hasPrefix (pg.extract a pg.size).data.toList OL.data.toList=true):=⟨by rw[HX.o];exact hpp⟩
  obtain⟨p,hp⟩:∃p,pg.data.toList.drop a=33::45::45::p:=by
   obtain⟨p,hp⟩:=List.isPrefixOf_iff_prefix.1 hpp
   exact⟨p,hp.symm⟩
  have hal:a+3<=pg.size:=by
   have e:=congrArg List.length hp
   rw[Z0,ae]at e
   simp at e;omega
  have HD:=Box.m hp
  clear hpp hp
  go_enter func95,ntmps95
  go_wp2_with fail
  go_region_held3 (fun w'=>w'.cell? ⟨b,0,none⟩=some (.string pg)/\w'.cell? ⟨b,1,none⟩=some (.string sm)/\w'.cell? ⟨b,2,none⟩=some (.int .i64 (a:Int))/\Below w.heap.size w w')
   ((go_split_ands;exact yP c0 c1 c2 (by first|exact ag.drew|assumption)))
   (first
    | (go_at_call 159;refine(Tryz.strings_HasPrefix _ OL _).mono ?_;rw[HPP.o];rintro e w5 ⟨rfl,rfl⟩))
  obtain⟨d0,d1,d2,d3,g2,g3,hb2⟩:=HP1.o.cells
  have HP2:=Box.m (HP1.o.setA (a+3))
  rw[GL]at HP2
  have hg2:=bP w.drew b 2 (.int .i64 ((a:Int)+3))
  have HO2:=Box.m (HO1.o.kept hg2 (Xu b))
  have hbw2:=hbw1.trans (aY hg2 (Ws hb2))
  have HG2:=Box.m (HG.o.below hbw2)
  go_wp2_with fail
  refine(sI b (a+3) pg sm ZL L _ HP2.o hl hs hal HG2.o.gp.mx).mono ?_
  rintro e w6 ⟨rfl,hP6,hg6⟩
  have HE:Box (fH pg sm b (k+1) w ALL (.returned (.tuple #[])) w6):=⟨by
   have hP:=hP6
   have hal':=hal
   rw[HKA.o]at hP hal'
   exact QF pg sm HS.o b k w w6 ALL L ls p (by rw[<-HKA.o];exact HD.o) its tl HR.o HA.o hP (HO2.o.kept hg6 (Xu b)) hal' (hbw2.trans (aY hg6 (Ws HP2.o.cells.2.2.2.2.2.2)))⟩
  clear hP6
  go_wp2
  go_end0
  exact HE.o
theorem PGB.up{w:World}{b b':Nat}(h:PGB w b)(hb:b<=b'):PGB w b':=by
 have h0:=h.l0
 have h1:=h.l1
 have h2:=h.l2
 have h3:=h.l3
 exact⟨⟨h.gp.words,h.gp.leads,h.gp.verbs,h.gp.mx,by omega,by omega,by omega,by omega⟩,by omega,by omega,by omega,by omega⟩
theorem jZ(m:Md)(s:aa)(its:List dD)(tl:aa)(h:Run m s its tl):eF its<=s.length:=by
 induction h with
 | stop m s _=>exact ZY _
 | go m m' s c r tl e its h0 _ ih=>
  match m with
  | none=>
   have h0:aR s=some (c,e,m',r):=h0
   obtain⟨rfl,h1,h2,_⟩:=qh s c r r e m' h0 rfl
   have:=congrArg List.length h1
   rw[ZZ]at this
   rw[eF]
   omega
  | some (true,n)=>
   have h0:dF n s=some (c,e,m',r):=h0
   unfold dF at h0
   obtain⟨q,hq,hq2⟩:=aal.1 h0
   simp only[Prod.mk.injEq]at hq2
   obtain⟨rfl,rfl,rfl,rfl⟩:=hq2
   have:=congrArg List.length (lu _ _ q.1 q.2 hq).1
   rw[ZZ]at this
   rw[eF]
   omega
  | some (false,n)=>
   have h0:bi n s=some (c,e,m',r):=h0
   match e with
   | none=>
    have:=congrArg List.length (tJ n s c r r m' h0 rfl).1
    rw[ZZ]at this
    rw[eF]
    omega
   | some (v,b)=>
    obtain⟨_,h2,⟨_,q,_,_,h1,_⟩|⟨_,h1,_⟩⟩:=r9 n s c r v b m' h0
    all_goals
     have:=congrArg List.length h1
     have:=aaa.2 h2
     simp only[ZZ,Z7]at *
     rw[eF]
     omega
theorem SC(z r x y:aa)(h:z++r=x++60::y)(hz:60∉z):∃u,x=z++u/\r=u++60::y:=by
 rcases List.append_eq_append_iff.1 h with⟨u,h1,h2⟩|⟨u,h1,h2⟩
 ·exact⟨u,h1,h2⟩
 ·cases u with
  | nil=>exact⟨[],by simpa using h1.symm,by simpa using h2.symm⟩
  | cons c u=>
   simp only[aaj,List.cons.injEq]at h2
   exact absurd (by rw[h1];simp[h2.1]) hz
structure Gs(pg:ByteArray)(ALL:List (Nat×Nat×aa))(a:Nat)(ls:List Lk):Prop where
 run:∃z r its tl,pg.data.toList.drop a=z++r/\60∉z/\Run none r its tl/\ls.map lk2++aC (a+z.length) its=ALL
def Dz:ByteArray:=⟨#[60]⟩
theorem yK(pg:ByteArray)(w:World)(hG:PGB w w.heap.size)(hl:pg.size<=100000000)(its:List dD)(tl:aa)(hR:Run none pg.data.toList its tl):
  Calls prog 52 #[.string pg] w fun e w'=>∃v ls,e=.returned v/\gD w' w.heap.size v ls/\ls.map lk2=aC 0 its/\Below w.heap.size w w':=by
 obtain⟨ALL,HALL⟩:∃ALL,Box (aC 0 its=ALL):=⟨_,⟨rfl⟩⟩
 rw[HALL.o]
 have HAl:Box (ALL.length<=100000000):=⟨by rw[<-HALL.o,gT];have:=jZ none _ its tl hR;rw[ae]at this;omega⟩
 have HL0:Box (Gs pg ALL 0 []):=⟨⟨[],pg.data.toList,its,tl,rfl,by simp,hR,HALL.o⟩⟩
 have HG:=Box.m hG
 clear hG hR HALL
 go_enter func52,ntmps52
 go_wp2_with fail
 refine(mV pg _ hl).mono ?_
 obtain⟨sm,HSM⟩:∃sm:ByteArray,Box (sm=⟨(ah pg.data.toList).toArray⟩):=⟨_,⟨rfl⟩⟩
 rw[<-HSM.o]
 rintro e w1 ⟨rfl,hb1⟩
 have HS:Box (sm.data.toList=ah pg.data.toList):=⟨by rw[HSM.o]⟩
 clear HSM
 go_wp2
 obtain⟨b,HB⟩:∃b,Box (w1.heap.size=b):=⟨_,⟨rfl⟩⟩
 have hb2:Below w1.heap.size w1 (w1.alloc (Obj.cells #[Value.string pg,Value.string sm,Value.int IntKind.i64 0,Value.slice none 0 0] 136)):=ag.alloc af _
 have hP2:PR (w1.alloc (Obj.cells #[Value.string pg,Value.string sm,Value.int IntKind.i64 0,Value.slice none 0 0] 136)) b pg sm 0 (.slice none 0 0):=by
  rw[<-HB.o]
  exact Array.getElem?_push_size
 have hs:sm.size=pg.size:=by rw[<-ae,HS.o,gF,ae]
 rw[HB.o]
 rw[HB.o]at hb2
 generalize w1.alloc (Obj.cells #[Value.string pg,Value.string sm,Value.int IntKind.i64 0,Value.slice none 0 0] 136)=w2 at hb2 hP2 ⊢
 have hwb:w.heap.size<=b:=by rw[<-HB.o];exact hb1.size
 have hb02:Below w.heap.size w w2:=hb1.trans (hb2.mono hwb)
 have HG2:=Box.m ((HG.o.below hb02).up hwb)
 have hbl:=hP2.cells.2.2.2.2.2.2
 clear HB hb1 hb2
 go_loopg [] (pg.size - 0) (fun gf wx=>∃a L ls,a<=pg.size/\PR wx b pg sm a L/\gD wx (b+1) L ls/\Box (Gs pg ALL a ls)/\Below b w2 wx/\pg.size - a<=gf)
 case atStart=>exact⟨0,_,[],ZY _,hP2,gD.nil _ _,HL0,Below.refl _ _,ZV _⟩
 case round=>
  clear hP2 HL0
  obtain⟨a,L,ls,ha,hr,hO,HT,hbw,hgf⟩:=hrel
  have hblt:=hr.cells.2.2.2.2.2.2
  have HR:=Box.m hr
  have HO:=Box.m hO
  have HGr:=Box.m (HG2.o.below hbw)
  obtain⟨hix,hsk⟩:=wU pg sm HS.o [60] (by simp) (by intro c hc;simp at hc;rw[hc];exact V6) a
  clear hr hO
  cases hf:bu [60] (pg.data.toList.drop a)with
  | none=>
   rw[hf]at hix hsk
   have HIX:Box (decide (0<=Lib.index (sm.data.toList.drop a) Dz.data.toList)=false):=⟨by
    have e:Lib.index (sm.data.toList.drop a) Dz.data.toList=-1:=hix
    rw[e];rfl⟩
   have HA:Box (ls.map lk2=ALL):=⟨by
    obtain⟨z,r,its',tl',h1,h2,h3,h4⟩:=HT.o.run
    have hn:=QB 60 _ hf
    rw[h1]at hn
    have:=Vi r (fun h=>hn (by simp[h])) its' tl' h3
    rw[this,aC,Z4]at h4
    exact h4⟩
   clear hix hsk hf
   go_wp2_with fail
   refine(sI b a pg sm Dz L _ HR.o hl hs ha HGr.o.gp.mx).mono ?_
   rw[HIX.o]
   rintro e w5 ⟨rfl,hP5,hg5⟩
   have hO5:=HO.o.kept hg5 (Xu b)
   have hb5:=hbw.trans (aY hg5 (Ws hblt))
   obtain⟨A5,cap5,hL5,hc5⟩:=hO5.len
   subst hL5
   obtain⟨d0,d1,d2,d3,g2,g3,hb6⟩:=hP5.cells
   have HO5:=Box.m hO5
   clear hP5 hO5
   go_wp2
   go_ret
   exact⟨_,ls,rfl,HO5.o.mono (by omega),HA.o,hb02.trans (hb5.mono hwb)⟩
  | some q=>
   obtain⟨x,y0⟩:=q
   obtain⟨y,rfl⟩:=mP 60 _ x y0 hf
   have hxy:=(gG _ _ x _ hf).1
   rw[hf]at hix hsk
   have HIX:Box (decide (0<=Lib.index (sm.data.toList.drop a) Dz.data.toList)=true):=⟨by
    have e:Lib.index (sm.data.toList.drop a) Dz.data.toList=((x.length:Nat):Int):=hix
    rw[e];exact decide_eq_true (by omega)⟩
   have HSK:Box (l9 Dz.data.toList sm.data.toList pg.size a=a+x.length):=⟨hsk⟩
   have hdk:pg.data.toList.drop (a+x.length+1)=y:=by
    have:=ig _ a x _ hxy
    exact ig _ (a+x.length) [60] y this
   have hkl:a+x.length+1<=pg.size:=by
    have e:=congrArg List.length hxy
    rw[Z0,ae]at e
    simp at e;omega
   obtain⟨its',tl',hRm,hAm⟩:∃its' tl',Run none (60::pg.data.toList.drop (a+x.length+1)) its' tl'/\ls.map lk2++aC (a+x.length) its'=ALL:=by
    obtain⟨z,r,its0,tl0,h1,h2,h3,h4⟩:=HT.o.run
    rw[h1]at hxy
    obtain⟨u,hu1,hu2⟩:=SC z r x y hxy h2
    have hxn:=KE 60 _ x _ hf
    rw[hu2]at h3
    obtain⟨its',tl',h5,h6⟩:=V9 u (60::y) (fun h=>hxn (by rw[hu1];simp[h])) its0 tl0 h3
    refine⟨its',tl',by rw[hdk];exact h5,?_⟩
    rw[<-h4,<-h6,hu1,ZZ,ZW]
   have HRM:=Box.m hRm
   have HAM:=Box.m hAm
   clear hix hsk hf hxy hdk hRm hAm
   generalize a+x.length=k at HSK hkl HRM HAM
   have hak:a<=k:=by
    have:=HSK.o
    unfold l9 at this
    split at this<;>omega
   go_wp2_with fail
   refine(sI b a pg sm Dz L _ HR.o hl hs ha HGr.o.gp.mx).mono ?_
   rw[HIX.o,HSK.o]
   rintro e w5 ⟨rfl,hP5,hg5⟩
   obtain⟨d0,d1,d2,d3,g2,g3,hb6⟩:=hP5.cells
   have HP6:=Box.m (hP5.setA (k+1))
   rw[GL]at HP6
   have hg6:=bP w5 b 2 (.int .i64 ((k:Int)+1))
   have HO6:=Box.m ((HO.o.kept hg5 (Xu b)).kept hg6 (Xu b))
   have hb7:=(hbw.trans (aY hg5 (Ws hblt))).trans (aY hg6 (Ws hb6))
   have HG7:=Box.m (HG2.o.below hb7)
   clear hP5 hg5 hg6
   go_wp2_with fail
   refine(SN b k pg sm L _ HP6.o HG7.o hl HS.o hkl ls HO6.o its' tl' HRM.o ALL HAM.o HAl.o).mono ?_
   rintro e w8 ⟨rfl,L8,ls8,a8,z8,r8,its8,tl8,q1,q2,q3,q4,q5,q6,q7,q8,q9⟩
   have HT8:Box (Gs pg ALL a8 ls8):=⟨⟨z8,r8,its8,tl8,q5,q6,q7,q8⟩⟩
   clear q5 q6 q7 q8
   have hb8:=hb7.trans q9
   go_wp2
   go_roundg (pg.size - a - 1)
   case measure=>omega
   case rel=>exact⟨a8,L8,ls8,q4,q1,q2,HT8,hb8,by omega⟩
def Ka:dD->Prop
 | (_,none)=>True
 | (c,some (_,true))=>∃d,c.getLast?=some d/\(d=34\/d=39)
 | (c,some (_,false))=>∃d,c.getLast?=some d/\d≠34/\d≠39
theorem Od(c:UInt8)(h:dG c=true):c≠34/\c≠39:=by
 constructor<;>rintro rfl<;>exact absurd h (by decide)
theorem QP(n s c r v:aa)(q:Bool)(m:Md)(h:bi n s=some (c,some (v,q),m,r)):Ka (c,some (v,q)):=by
 unfold bi at h
 cases hs:s.dropWhile dw with
 | nil=>rw[hs]at h;cases h
 | cons d t=>
  rw[hs]at h
  simp only at h
  by_cases h0:d=62
  ·rw[if_pos h0]at h
   simp at h
  ·rw[if_neg h0]at h
   by_cases h1:t.dropWhile aU=[]
   ·rw[if_pos h1]at h;cases h
   ·rw[if_neg h1]at h
    by_cases h2:((t.dropWhile aU).dropWhile dG).head?=some 61
    ·rw[if_pos h2,LG]at h
     generalize ((t.dropWhile aU).dropWhile dG).drop 1=y at h
     cases hv:yw (y.dropWhile dG)with
     | none=>rw[hv]at h;cases h
     | some vq=>
      obtain⟨v',q'⟩:=vq
      rw[hv]at h
      simp only at h
      split at h
      ·simp only[Option.some.injEq,Prod.mk.injEq]at h
       obtain⟨rfl,⟨rfl,rfl⟩,_,_⟩:=h
       cases q' with
       | true=>
        cases hy:y.dropWhile dG with
        | nil=>rw[hy]at hv;cases hv
        | cons e z=>
         rw[hy,yw]at hv
         have he:e=34\/e=39:=by
          by_cases he:e=34\/e=39
          ·exact he
          ·rw[if_neg he]at hv
           split at hv
           ·cases hv
           ·simp at hv
         refine⟨e,?_,he⟩
         have:qn true=1:=rfl
         rw[this,Z6]
         simp
       | false=>
        have:qn false=0:=rfl
        rw[this,List.take_zero,Z4]
        cases hg:(y.takeWhile dG).getLast? with
        | none=>
         refine⟨61,?_,by decide,by decide⟩
         rw[Z6,hg,Option.none_or,Z6]
         rfl
        | some g=>
         have hgm:dG g=true:=bg _ g (List.mem_of_getLast? hg)
         refine⟨g,?_,(Od g hgm).1,(Od g hgm).2⟩
         rw[Z6,hg]
         rfl
      ·simp at h
    ·rw[if_neg h2]at h
     simp at h
theorem Qi(m:Md)(s:aa)(its:List dD)(tl:aa)(h:Run m s its tl):∀it∈its,Ka it:=by
 induction h with
 | stop m s _=>intro it hit;cases hit
 | go m m' s c r tl e its h0 _ ih=>
  intro it hit
  rcases List.mem_cons.1 hit with rfl|hit
  ·match m with
   | none=>
    have h0:aR s=some (c,e,m',r):=h0
    obtain⟨rfl,_⟩:=qh s c r r e m' h0 rfl
    exact trivial
   | some (true,n)=>
    have h0:dF n s=some (c,e,m',r):=h0
    unfold dF at h0
    obtain⟨q,hq,hq2⟩:=aal.1 h0
    simp only[Prod.mk.injEq]at hq2
    obtain⟨rfl,rfl,rfl,rfl⟩:=hq2
    exact trivial
   | some (false,n)=>
    match e with
    | none=>exact trivial
    | some (v,q)=>exact QP n s c r v q m' h0
  ·exact ih it hit
theorem yR:∀its:List dD,(∀it∈its,Ka it) ->
  (eF its=0/\∀(vs:List (aa)) (tl:aa),gV its vs tl=jc its tl)
  \/ ∃(c v op cl cl':aa) (its':List dD) (d:UInt8),eF its=eF its'+1/\(∀it∈its',Ka it)/\c.getLast?=some d
   /\ ((op=[]/\cl'=cl/\(d=34\/d=39))\/(op=[34]/\cl=[]/\cl'=[34]/\¬(d=34\/d=39)))
   /\ (∀tl,jc its tl=c++(v++(cl++jc its' tl)))
   /\ (∀k,aC k its=(k+c.length,v.length,dH v)::aC (k+c.length+v.length+cl.length) its')
   /\ (∀(vs:List (aa)) (tl:aa),gV its vs tl=c++(op++(vs.headD []++(cl'++gV its' vs.tail tl))))
 | [],_=>.inl ⟨rfl,fun _ _=>rfl⟩
 | (c,none)::its,hg=>by
  rcases yR its (fun it h=>hg it (by simp[h]))with⟨h1,h2⟩|⟨c1,v,op,cl,cl',its',d,h0,hg',hl,h1,h2,h3,h4⟩
  ·exact .inl ⟨h1,fun vs tl=>by rw[gV,jc,h2]⟩
  ·refine .inr ⟨c++c1,v,op,cl,cl',its',d,h0,hg',by rw[Z6,hl];rfl,h1,fun tl=>?_,fun k=>?_,fun vs tl=>?_⟩
   ·rw[jc,h2];simp
   ·rw[aC,h3,ZZ,ZW k]
   ·rw[gV,h4];simp
 | (c,some (v,true))::its,hg=>by
  obtain⟨d,hd1,hd2⟩:=hg (c,some (v,true)) (by simp)
  exact .inr ⟨c,v,[],[c.getLast?.getD 0],[c.getLast?.getD 0],its,d,rfl,fun it h=>hg it (by simp[h]),hd1,.inl ⟨rfl,rfl,hd2⟩,fun tl=>rfl,fun k=>rfl,fun vs tl=>rfl⟩
 | (c,some (v,false))::its,hg=>by
  obtain⟨d,hd1,hd2,hd3⟩:=hg (c,some (v,false)) (by simp)
  exact .inr ⟨c,v,[34],[],[34],its,d,rfl,fun it h=>hg it (by simp[h]),hd1,.inr ⟨rfl,rfl,rfl,fun h=>h.elim hd2 hd3⟩,fun tl=>rfl,fun k=>rfl,fun vs tl=>rfl⟩
def wrS(x:aa)(c:UInt8):aa:=if c=34\/c=39 then eY x else 34::(eY x++[34])
structure zM(s tl T:aa)(lks:List (Nat×Nat×aa))(xs:List (aa))(d:Nat)(O:aa):Prop where
 ex:∃its pend,(∀it∈its,Ka it)/\s.drop d=pend++jc its tl/\lks=aC (d+pend.length) its/\O++(pend++gV its (xs.map eY) tl)=T/\d<=s.length
theorem Rw(s:aa)(its:List dD)(tl:aa)(h:Run none s its tl)(xs:List (aa)):zM s tl (gV its (xs.map eY) tl) (aC 0 its) xs 0 []:=
 ⟨its,[],Qi _ _ _ _ h,by have:=(lD s its tl h []).1;simpa using this,rfl,rfl,ZY _⟩
theorem XK{s tl T:aa}{xs:List (aa)}{d:Nat}{O:aa}(h:zM s tl T [] xs d O):O++s.drop d=T:=by
 obtain⟨its,pend,hg,h1,h2,h3,_⟩:=h.ex
 rcases yR its hg with⟨_,h4⟩|⟨c,v,op,cl,cl',its',d',h0,hg',hl,_,_,h5,_⟩
 ·rw[h4]at h3
  rw[h1,h3]
 ·rw[h5]at h2;cases h2
theorem Vn{s tl T V:aa}{lks:List (Nat×Nat×aa)}{x:aa}{xs:List (aa)}{a n d:Nat}{O:aa}(h:zM s tl T ((a,n,V)::lks) (x::xs) d O):
  d<=a/\1<=a/\a+n<=s.length/\∀c,s[a - 1]?=some c->zM s tl T lks xs (a+n) (O++(s.drop d).take (a - d)++wrS x c):=by
 obtain⟨its,pend,hg,h1,h2,h3,hd⟩:=h.ex
 rcases yR its hg with⟨h4,h5⟩|⟨c,v,op,cl,cl',its',d',h0,hg',hl,hop,h4,h5,h6⟩
 ·have:=congrArg List.length h2
  rw[gT,h4]at this
  simp at this
 ·rw[h5]at h2
  simp only[List.cons.injEq,Prod.mk.injEq]at h2
  obtain⟨⟨rfl,rfl,rfl⟩,rfl⟩:=h2
  have hcl:0<c.length:=by
   cases c with
   | nil=>cases hl
   | cons _ _=>simp
  rw[h4]at h1
  have hlen:=congrArg List.length h1
  rw[Z0]at hlen
  simp only[ZZ]at hlen
  refine⟨by omega,by omega,by omega,?_⟩
  intro e he
  have h1':s.drop d=(pend++c)++(v++(cl++jc its' tl)):=by rw[h1];simp
  have hed:e=d':=by
   have e1:(s.drop d)[pend.length+c.length - 1]?=some e:=by
    rw[List.getElem?_drop,<-he]
    congr 1
    omega
   rw[h1',List.getElem?_append_left (by simp;omega)]at e1
   have e2:(pend++c).getLast?=some d':=by rw[Z6,hl];rfl
   rw[List.getLast?_eq_getElem?,ZZ]at e2
   rw[e1]at e2
   exact Option.some.inj e2
  subst hed
  have htk:(s.drop d).take (d+pend.length+c.length - d)=pend++c:=by
   rw[h1']
   exact aab (by simp;omega)
  rw[htk]
  have hdr:s.drop (d+pend.length+c.length+v.length)=cl++jc its' tl:=by
   have:=ig s d (pend++c) _ h1'
   have:=ig s _ v _ this
   rw[ZZ]at this
   rw[<-this]
   congr 1
   omega
  refine⟨its',cl,hg',hdr,?_,?_,by omega⟩
  ·rfl
  ·rw[<-h3,h6]
   rcases hop with⟨rfl,rfl,hq⟩|⟨rfl,rfl,rfl,hq⟩
   ·unfold wrS
    rw[if_pos hq]
    simp
   ·unfold wrS
    rw[if_neg hq]
    simp
theorem Hz(s:ByteArray)(c:UInt8)(w:World)(hW:kg w)(hs:s.size<=100000000):
  Calls prog 195 #[.string s,.int .u8 (c.toNat:Int)] w fun e w'=>∃S:ByteArray,e=.returned (.string S)/\S.data.toList=wrS s.data.toList c/\S.size<=600000002/\Below w.heap.size w w':=by
 have hix:∀w,Calls prog 170 #[.string iy,.int .u8 (c.toNat:Int)] w fun e w'=>e=.returned (.int .i64 (Lib.indexByte iy.data.toList c))/\w'=w:=by
  intro w
  refine(Tryz.strings_IndexByte _ _ w).mono ?_
  rintro e w' ⟨rfl,rfl⟩
  refine⟨?_,rfl⟩
  congr 4
  simp
 have hq:decide (0<=Lib.indexByte iy.data.toList c)=(c==34||c==39):=by
  rw[uQ]
  show List.elem c [34,39]=_
  simp only[List.elem]
  cases c==34<;>cases c==39<;>rfl
 have HX:=Box.m hix
 obtain⟨z,hz⟩:∃z,Lib.indexByte iy.data.toList c=z:=⟨_,rfl⟩
 rw[hz]at HX hq
 clear hix hz
 have HW:=Box.m hW
 clear hW
 by_cases hc:c=34\/c=39
 ·have hz0:0<=z:=by
   have:decide (0<=z)=true:=by rw[hq];rcases hc with rfl|rfl<;>rfl
   exact of_decide_eq_true this
  unfold wrS
  rw[if_pos hc]
  clear hq
  go_enter func195,ntmps195
  go_wp2_with (first
   | (go_at_call 170;refine(HX.o _).mono ?_;rintro e w6 ⟨rfl,rfl⟩)
   | (go_at_call 237;refine(Cr s _ HW.o hs).mono ?_;rintro e w7 ⟨S,rfl,hS,hb7⟩))
  go_ret
  refine⟨S,rfl,hS,?_,hb7⟩
  have:=qg s.data.toList
  rw[<-hS,ae,ae]at this
  omega
 ·have hz0:¬0<=z:=by
   intro h
   have:decide (0<=z)=true:=decide_eq_true h
   rw[hq]at this
   simp only[Bool.or_eq_true,beq_iff_eq]at this
   exact hc this
  have hz1:z<0:=by omega
  unfold wrS
  rw[if_neg hc]
  clear hq
  go_enter func195,ntmps195
  go_wp2_with (first
   | (go_at_call 170;refine(HX.o _).mono ?_;rintro e w6 ⟨rfl,rfl⟩)
   | (go_at_call 237;refine(Cr s _ HW.o hs).mono ?_;rintro e w7 ⟨S,rfl,hS,hb7⟩;have hSl:S.size<=600000000:=(by have:=qg s.data.toList;rw[<-hS,ae,ae]at this;omega)))
  go_ret
  refine⟨_,rfl,?_,?_,hb7⟩
  ·rw[aao,aaq,aao,aaq,hS];rfl
  ·rw[aap,aap];show 1+S.size+1<=_;omega
end Go.Proofs.YtkldkhdigkpniaaGreatDoor
