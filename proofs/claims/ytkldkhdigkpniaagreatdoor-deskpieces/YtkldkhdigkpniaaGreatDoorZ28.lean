import Derived.Test.YtkldkhdigkpniaaGreatDoorZ27
import Derived.Deep.RegionHeld3
set_option maxHeartbeats 4000000
set_option maxRecDepth 100000
open Nat renaming le_trans → GL, le_succ → VQ, zero_add → Ws
namespace Go.Proofs.YtkldkhdigkpniaaGreatDoor
open Go.RowKit Go.Proofs.Tryz
def EW:Obj:=.cells #[.string ⟨#[]⟩,.int .i64 0] 79
abbrev Ci(S:ByteArray)(o:Option Nat):Value:=.agg #[.string S,jB o]
theorem uh{w:World}{g:Nat}{p:XP}(h:w.heap[g]?=some (fq p)):XC w g 0 p:=by
 unfold fq at h
 exact⟨by simp[World.cell?,h],by simp[World.cell?,h],by simp[World.cell?,h],by simp[World.cell?,h],by simp[World.cell?,h],by simp[World.cell?,h],by simp[World.cell?,h],by simp[World.cell?,h],by simp[World.cell?,h],by simp[World.cell?,h],by simp[World.cell?,h]⟩
theorem XQ{w:World}{g:Nat}(h:w.heap[g]?=some EW):w.cell? ⟨g,0,none⟩=some (.string ⟨#[]⟩)/\w.cell? ⟨g,1,none⟩=some (.int .i64 0)/\∀i,w.frozen? ⟨g,i,none⟩=false:=by
 unfold EW at h
 exact⟨by simp[World.cell?,h],by simp[World.cell?,h],fun i=>by simp[World.frozen?,h]⟩
theorem Blk.set{w:World}{g k i:Nat}{v0 v1 v2 v3 v4 v5 v6 v7:Value}(h:Blk w g v0 v1 v2 v3 v4 v5 v6 v7)(hk:g≠k)(v:Value):Blk (w.setCell ⟨k,i,none⟩ v) g v0 v1 v2 v3 v4 v5 v6 v7:=by
 have key:∀(j:Nat) (u:Value),w.cell? ⟨g,j,none⟩=some u->(w.setCell ⟨k,i,none⟩ v).cell? ⟨g,j,none⟩=some u:=fun j u hu=>(World.cell?_setCell_far w ⟨k,i,none⟩ ⟨g,j,none⟩ v (fun e=>hk e.symm)).trans hu
 exact⟨key _ _ h.c0,key _ _ h.c1,key _ _ h.c2,key _ _ h.c3,key _ _ h.c4,key _ _ h.c5,key _ _ h.c6,key _ _ h.c7,fun x=>(World.frozen?_setCell _ _ _ _).trans (h.fz x)⟩
theorem OH{a w':World}{C g:Nat}{v0 v1 v2 v3 v4 v5 v6 v7:Value}(h:Blk w' g v0 v1 v2 v3 v4 v5 v6 v7)(hb:Below C a w'):w'.cell? ⟨g,0,none⟩=some v0/\w'.cell? ⟨g,1,none⟩=some v1/\w'.cell? ⟨g,2,none⟩=some v2/\w'.cell? ⟨g,3,none⟩=some v3/\w'.cell? ⟨g,4,none⟩=some v4/\w'.cell? ⟨g,5,none⟩=some v5/\w'.cell? ⟨g,6,none⟩=some v6/\w'.cell? ⟨g,7,none⟩=some v7/\Below C a w':=
 ⟨h.c0,h.c1,h.c2,h.c3,h.c4,h.c5,h.c6,h.c7,hb⟩
theorem FU{w:World}{b:Nat}{hv:Value}{hl:List Fl}{A:Option Addr}{cap:Nat}{ps:List XP}{root:Nat}(h:BN w b hv hl A cap ps root)(p:XP)(hp:p.loc.Small 270000)(s:ByteArray)(hs:s.size<=100000)(hm:Max w):
  Calls prog 93 #[.pointer (some ⟨b,0,none⟩),p.val,.string s] w fun e w'=>∃S,e=.returned (Ci S (iJ (ps.map XP.bp) p.loc.ab s.data.toList).2)/\S.data.toList=(iJ (ps.map XP.bp) p.loc.ab s.data.toList).1/\Below w.heap.size w w':=by
 have hw0:=hm.1
 have hW0:Below w.heap.size w ((w.alloc (fq p)).alloc EW):=(ag.alloc af _).alloc (by simp) _
 have hh:=xD w (fq p) EW
 have hz:((w.alloc (fq p)).alloc EW).heap.size=w.heap.size+2:=by simp
 have HM:=Box.m hm
 have HB:=Box.m h
 have HM1:=Box.m (HM.o.below hW0 hw0)
 obtain⟨R,HR⟩:∃R,Box (iJ (ps.map XP.bp) p.loc.ab s.data.toList=R):=⟨_,⟨rfl⟩⟩
 rw[HR.o]
 have HX:Box (∀w':World,w'.heap[w.heap.size]?=some (fq p)->XC w' w.heap.size 0 p):=⟨fun w' h'=>uh h'⟩
 obtain⟨hd,fs,bd,id,⟨b0,b1,b2,b3,b4,b5,b6,b7⟩⟩:=p
 have HP:=Box.m hp
 clear hm h hp
 unfold fq at hW0 hh hz HM1 HX
 simp only at hW0 hh hz HM1 HX
 unfold EW at hW0 hh hz HM1
 go_enter func93,ntmps93
 go_wp2_with fail
 refine(xe s _ (by omega) HM1.o).mono ?_
 rintro e w1 ⟨rfl,hs1,hb1⟩
 have hb01:=hW0.trans (hb1.mono hW0.size)
 have hx1:=az hb1 hh.1
 have hl1:=az hb1 hh.2
 cases hr:bM s.data.toList with
 | none=>
  obtain⟨h1,h2⟩:=vT hr
  rw[h1,h2]
  have HR2:Box (R=(s.data.toList,none)):=⟨by rw[<-HR.o];unfold iJ;rw[hr]⟩
  have hl2:(w1.alloc (ko ⟨#[]⟩ false ⟨#[]⟩ ⟨#[]⟩ false ⟨#[]⟩ false ⟨#[]⟩)).heap[w.heap.size+1]?=_:=az ((Below.refl w1.heap.size w1).alloc af _) hl1
  obtain⟨y0,y1,yf⟩:=XQ hl2
  clear HR hr h1 h2 hs1 hx1 hl1 hl2 hh HX
  go_wp2
  refine bodyPost_ret (v:=Ci s none) (by simp[results,results93,go_sem,y0,y1,jB]) rfl ⟨s,by rw[HR2.o],by rw[HR2.o],?_⟩
  iterate 2 (refine Below.setCell ?_ (by simp<;>omega) _)
  exact hb01.trans (((Below.refl w1.heap.size w1).alloc af _).mono hb01.size)
 | some a=>
  obtain⟨h1,h2⟩:=wF (v:=AV.of a) (by rw[nS];exact hr)
  rw[h1]at hs1
  rw[h1,h2]
  have HR2:Box (R=(bQ (jv (AV.ab ⟨b0,b1,b2,b3,b4,b5,b6,b7⟩) a),jU (ps.map XP.bp) (jv (AV.ab ⟨b0,b1,b2,b3,b4,b5,b6,b7⟩) a))):=⟨by rw[<-HR.o];unfold iJ;rw[hr]⟩
  rw[<-nS a]at HR2
  generalize AV.of a=v at hs1 HR2 ⊢
  obtain⟨v0,v1,v2,v3,v4,v5,v6,v7⟩:=v
  clear HR hr h1 h2
  have hbA:Below w1.heap.size w1 (w1.alloc (ko v0 v1 v2 v3 v4 v5 v6 v7)):=ag.alloc af _
  have hx2:=az hbA hx1
  have hl2:=az hbA hl1
  have hl1':=hl1
  obtain⟨d0,d1,d2,d3,d4,d5,d6,d7,d8,d9,da⟩:=HX.o _ hx2
  simp only[Ws]at d0 d1 d2 d3 d4 d5 d6 d7 d8 d9 da
  have hg2:=aP w1 (ko v0 v1 v2 v3 v4 v5 v6 v7)
  have hb02:=hb01.trans (hbA.mono hb01.size)
  have HM2:=Box.m (HM.o.below hb02 hw0)
  clear hx1 hl1 hx2 hh HX hW0 hb1 HM1 hz d0 d1 d2
  go_wp2_with fail
  have hps:b3.size<=270000:=HP.o.pa
  have hvs:v3.size<=100000:=GL hs1.pa hs
  refine(Bo ⟨b0,b1,b2,b3,b4,b5,b6,b7⟩ ⟨v0,v1,v2,v3,v4,v5,v6,v7⟩ _ (by show b3.size<=_;omega) (by show v3.size<=_;omega) HM2.o).mono ?_
  rintro e w3 ⟨rfl,hb3⟩
  have hrs:=nV HP.o (a:=⟨v0,v1,v2,v3,v4,v5,v6,v7⟩) (n:=270000) ⟨GL hs1.sc (by omega),GL hs1.au (by omega),GL hs1.pa (by omega),GL hs1.qu (by omega),GL hs1.fr (by omega)⟩
  have hra:=qW ⟨b0,b1,b2,b3,b4,b5,b6,b7⟩ ⟨v0,v1,v2,v3,v4,v5,v6,v7⟩
  have HR3:=HR2
  rw[<-hra]at HR3
  generalize qw ⟨b0,b1,b2,b3,b4,b5,b6,b7⟩ ⟨v0,v1,v2,v3,v4,v5,v6,v7⟩=r at hrs HR3 ⊢
  obtain⟨x0,x1,x2,x3,x4,x5,x6,x7⟩:=r
  have hb03:=hb02.trans (hb3.mono hb02.size)
  have hg3:=az hb3 hg2
  have hl3:=az hb3 hl2
  obtain⟨y0,y1,y2,y3,y4,y5,y6,y7,yf⟩:=dU hg3
  have hg4:=kR hg3 (.string x0) (.bool x1) (.string x2) (.string x3) (.bool x4) (.string x5) (.bool x6) (.string x7)
  have hb4:=iW hb03 hb01.size (.string x0) (.bool x1) (.string x2) (.string x3) (.bool x4) (.string x5) (.bool x6) (.string x7)
  have hlt:w.heap.size+1<w1.heap.size:=(Array.getElem?_eq_some_iff.1 hl1').1
  have hl4:=((iW (Below.refl w1.heap.size w3) af (.string x0) (.bool x1) (.string x2) (.string x3) (.bool x4) (.string x5) (.bool x6) (.string x7)).block (w.heap.size+1) hlt).trans hl3
  clear HR2 hra hg2 hg3 hl2 hl3 hbA d3 d4 d5 d6 d7 d8 d9 da hs1 HM2 hl1'
  go_wp2_with fail
  generalize (((((((w3.setCell ⟨w1.heap.size,0,none⟩ (.string x0)).setCell ⟨w1.heap.size,1,none⟩ (.bool x1)).setCell ⟨w1.heap.size,2,none⟩ (.string x2)).setCell ⟨w1.heap.size,3,none⟩ (.string x3)).setCell ⟨w1.heap.size,4,none⟩ (.bool x4)).setCell ⟨w1.heap.size,5,none⟩ (.string x5)).setCell ⟨w1.heap.size,6,none⟩ (.bool x6)).setCell ⟨w1.heap.size,7,none⟩ (.string x7)=W at hg4 hb4 hl4 ⊢
  have HK:=Box.m (dU hg4)
  have HBW:=Box.m (HB.o.below hb4)
  have HL4:=Box.m hl4
  have HRS:Box (AV.Small ⟨x0,x1,x2,x3,x4,x5,x6,x7⟩ 1000000):=⟨⟨GL hrs.sc (by omega),GL hrs.au (by omega),GL hrs.pa (by omega),GL hrs.qu (by omega),GL hrs.fr (by omega)⟩⟩
  clear y0 y1 y2 y3 y4 y5 y6 y7 yf hb3 hb03 hb02 hb01 hrs hg4 hl4 HB HM hps hvs
  have hne:w1.heap.size≠w.heap.size+1:=by omega
  obtain⟨F,HF⟩:∃F,Box (jU (ps.map XP.bp) (AV.ab ⟨x0,x1,x2,x3,x4,x5,x6,x7⟩)=F):=⟨_,⟨rfl⟩⟩
  obtain⟨z,HZ⟩:∃z,Box (jB F=.int .i64 z):=by
   cases F with
   | none=>exact⟨-1,⟨rfl⟩⟩
   | some i=>exact⟨(i:Int),⟨rfl⟩⟩
  go_region_held3 (fun w'=>w'.cell? ⟨w1.heap.size,0,none⟩=some (.string x0)/\w'.cell? ⟨w1.heap.size,1,none⟩=some (.bool x1)/\w'.cell? ⟨w1.heap.size,2,none⟩=some (.string x2)/\w'.cell? ⟨w1.heap.size,3,none⟩=some (.string x3)/\w'.cell? ⟨w1.heap.size,4,none⟩=some (.bool x4)/\w'.cell? ⟨w1.heap.size,5,none⟩=some (.string x5)/\w'.cell? ⟨w1.heap.size,6,none⟩=some (.bool x6)/\w'.cell? ⟨w1.heap.size,7,none⟩=some (.string x7)/\Below w.heap.size w w')
   ((go_split_ands;first|exact OH (HK.o.below ag.drew) hb4.drew|exact OH (HK.o.below (ag.drew.trans hb5)) (hb4.trans ((ag.drew.trans hb5).mono hb4.size))|exact OH (HK.o.below hbW6) (hb4.trans (hbW6.mono hb4.size))|exact OH (((HK.o.below hbW6).set hne _).set hne _) (((hb4.trans (hbW6.mono hb4.size)).setCell (VQ _) _).setCell (VQ _) _)))
   (first
    | (go_at_call 42;refine(rC ⟨x0,x1,x2,x3,x4,x5,x6,x7⟩ _ HRS.o).mono ?_;rintro e w5 ⟨rfl,hb5⟩)
    | (go_at_call 46;refine(FT (HBW.o.below (by first|assumption|exact ag.drew.trans hb5)) ⟨x0,x1,x2,x3,x4,x5,x6,x7⟩ HRS.o).mono ?_;rw[HF.o,HZ.o];rintro e w6 ⟨rfl,hb6⟩;have hbW6:Below W.heap.size W w6:=((Below.refl W.heap.size W).drew.trans (hb5.trans (hb6.mono hb5.size)));obtain⟨l0,l1,lf⟩:=XQ (az hbW6 HL4.o)))
  have hb06:=hb4.trans (hbW6.mono hb4.size)
  go_split_ands
  have HRz:Box (R=((iG ⟨x0,x1,x2,x3,x4,x5,x6,x7⟩).data.toList,F)):=⟨by rw[HR3.o,HF.o,oM]⟩
  clear HR3 HF HK HBW HL4 HRS
  go_wp2
  refine bodyPost_ret (v:=Ci (iG ⟨x0,x1,x2,x3,x4,x5,x6,x7⟩) F) (by simp[results,results93,go_sem,l0,l1,HZ.o]) rfl ⟨_,by rw[HRz.o],by rw[HRz.o],?_⟩
  iterate 2 (refine Below.setCell ?_ (VQ _) _)
  exact hb06
theorem Mo(q:XP)(g:Nat)(s:ByteArray)(w:World)(hi:q.id.size<=60000)(hc:w.cell? ⟨g,0,none⟩=some (.string s)):
  Calls prog 166 #[q.val,.pointer (some ⟨g,0,none⟩)] w fun e w'=>e=.returned (.bool (decide (cK q.id.data.toList=s.data.toList)))/\Below w.heap.size w w':=by
 have hbA:Below w.heap.size w (w.alloc (fq q)):=ag.alloc af _
 have hgA:=aP w (fq q)
 have c1:(w.alloc (fq q)).cell? ⟨g,0,none⟩=some (.string s):=(hbA.cell (p:=⟨g,0,none⟩) (World.block_lt_of_cell? w _ hc)).trans hc
 obtain⟨hd,fs,bd,id,⟨a0,a1,a2,a3,a4,a5,a6,a7⟩⟩:=q
 have hX:=(uh hgA).c2
 simp only[Ws]at hX
 unfold fq at hbA c1 hX
 simp only at hbA c1 hX hi
 clear hc hgA
 have HAn:=Box.m (wE id)
 obtain⟨R,HR⟩:∃R,Box (decide (cK id.data.toList=s.data.toList)=R):=⟨_,⟨rfl⟩⟩
 rw[HR.o]
 go_enter func166,ntmps166
 go_wp2_with fail
 generalize w.alloc (.cells #[hd,.string bd,.string id,.string a0,.bool a1,.string a2,.string a3,.bool a4,.string a5,.bool a6,.string a7] 104)=W at hbA c1 hX ⊢
 go_region_held3 (fun w'=>w'.cell? ⟨w.heap.size,2,none⟩=some (.string id)/\w'.cell? ⟨g,0,none⟩=some (.string s)/\Below w.heap.size w w')
  ((go_split_ands;first
   | exact⟨hX,c1,hbA.drew⟩
   | exact⟨by assumption,by assumption,by assumption⟩))
  (first
   | (go_at_call 130;refine(HAn.o _ (by omega)).mono ?_;rintro e w5 ⟨t,rfl,ht,hts,rfl⟩)
   | fail)
 all_goals
  have HZ:Box ((t.toList==s.toList)=R):=⟨by rw[H8,ht,HR.o]⟩
  go_split_ands
  clear HAn HR
  go_wp2
  go_ret
  exact⟨aN HZ.o,by assumption⟩
theorem Qc(P:List Fl):kE (P.map pb2)=((ve P stN).map (fun f:Fl=>f.2.data.toList)).getD []:=by
 unfold kE ve
 congr 1
 induction P with
 | nil=>rfl
 | cons f P ih=>
  rw[List.map_cons,List.find?_cons,List.find?_cons]
  have e:(pb2 f).1=f.1.data.toList:=rfl
  rw[e]
  cases decide (f.1.data.toList=stN)with
  | true=>rfl
  | false=>exact ih
theorem Kj(z:Int)(w:World):Sem.run prog (Builtin.max_ #[3,3] 3 #[Value.int IntKind.i64 0,Value.int IntKind.i64 z]) w=Result.ok (Value.int IntKind.i64 (if 0<z then z else 0)) w:=by
 simp[Builtin.max_,Builtin.max2]
theorem Nv{w:World}{b:Nat}{v:Value}{t:TypeId}(h:w.heap[b]?=some (.cells #[v] t (0,0))):w.cell? ⟨b,0,none⟩=some v:=by simp[World.cell?,h]
theorem M6(A:Option Addr)(cap:Nat)(ps:List XP)(v:Value)(P:List Fl)(w:World)(hX:XL w A ps)(hT:Hd P)(hF:FL w v P):
  Calls prog 102 #[.slice A ps.length cap,v] w fun e w'=>e=.returned (.int .i64 (oU (ps.map XP.bp) (kE (P.map pb2)):Int))/\Below w.heap.size w w':=by
 have HK:=Box.m (JH v P ⟨#[115,116,97,114,116]⟩ w hT.half.tiny hF)
 have hst:ve P (⟨#[115,116,97,114,116]⟩:ByteArray).data.toList=ve P stN:=rfl
 rw[hst]at HK
 have HS:=Box.m (Qc P)
 obtain⟨AP,capP,hvP,-⟩:=_root_.id hF
 subst hvP
 generalize kE (P.map pb2)=st at HS ⊢
 obtain⟨sv,q,hg,hsv⟩:∃(sv:ByteArray) (q:Bool),J3 (ve P stN)=.tuple #[.string sv,.bool q]/\st=sv.data.toList:=by
  rw[HS.o]
  cases ve P stN with
  | none=>exact⟨⟨#[]⟩,false,rfl,rfl⟩
  | some f=>exact⟨f.2,true,rfl,rfl⟩
 rw[hg]at HK
 subst hsv
 obtain⟨O,HO⟩:∃O,Box ((ps.map XP.bp).findIdx? (fun p=>decide (cK p.id=sv.data.toList))=O):=⟨_,⟨rfl⟩⟩
 have HR:Box (oU (ps.map XP.bp) sv.data.toList=O.getD 0):=⟨by unfold oU;rw[HO.o]⟩
 rw[HR.o]
 have HX:=Box.m hX
 clear hF hT hst hg HS hX HR
 go_enter func102,ntmps102
 go_wp2_with fail
 refine HK.o.mono ?_
 rintro e w1 ⟨rfl,hb1⟩
 have hbB:Below w1.heap.size w1 (w1.alloc (.cells #[.string sv] 9)):=ag.alloc af _
 have hb2:=hb1.trans (hbB.mono hb1.size)
 have hcs:(w1.alloc (.cells #[.string sv] 9)).cell? ⟨w1.heap.size,0,none⟩=some (.string sv):=Nv (aP w1 (.cells #[.string sv] 9))
 have HI:=Box.m (Wh (.pointer (some ⟨w1.heap.size,0,none⟩)) (fun q=>decide (cK q.id.data.toList=sv.data.toList)) A cap ps _ (HX.o.below hb2) (fun q hq w3 hb3=>Mo q _ sv w3 (HX.o.sm q hq).is ((hb3.cell (p:=⟨w1.heap.size,0,none⟩) (by simp)).trans hcs)))
 have hO2:ps.findIdx? (fun q=>decide (cK q.id.data.toList=sv.data.toList))=O:=by
  rw[<-HO.o,wM]
  rfl
 rw[hO2]at HI
 clear HK HX HO hcs hO2
 go_wp2_with fail
 refine HI.o.mono ?_
 rintro e w4 ⟨rfl,hb4⟩
 have hbb:=hb2.trans (hb4.mono hb2.size)
 clear HI
 cases O with
 | none=>
  have hmx:Sem.run prog (Builtin.max_ #[3,3] 3 #[Value.int IntKind.i64 0,jB none]) w4=Result.ok (Value.int IntKind.i64 0) w4:=Kj (-1) w4
  go_wp2
  go_ret
  exact⟨rfl,hbb⟩
 | some i=>
  have hmx:Sem.run prog (Builtin.max_ #[3,3] 3 #[Value.int IntKind.i64 0,jB (some i)]) w4=Result.ok (Value.int IntKind.i64 (i:Int)) w4:=by
   rw[jB,Kj]
   congr 2
   split<;>omega
  go_wp2
  go_ret
  exact⟨rfl,hbb⟩
end Go.Proofs.YtkldkhdigkpniaaGreatDoor
