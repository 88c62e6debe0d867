import Derived.Test.YtkldkhdigkpniaaGreatDoorZ38
import Derived.Test.YtkldkhdigkpniaaGreatDoorZ34
import Derived.Test.YtkldkhdigkpniaaGreatDoorZ37
set_option maxHeartbeats 2000000
set_option maxRecDepth 100000
open Nat renaming zero_le → GL, zero_add → VQ, le_trans → Ws
open List renaming length_map → Xu
namespace Go.Proofs.YtkldkhdigkpniaaGreatDoor
open Go.RowKit Go.Proofs.Px Go.Proofs.Tryz
theorem YE{W w':World}{g:Nat}{v0 v1 v2 v3 v4 v5 v6 v7:Value}(h:Blk W g v0 v1 v2 v3 v4 v5 v6 v7)(hb:Below W.heap.size W w'):w'.cell? ⟨g,6,none⟩=some v6/\w'.cell? ⟨g,7,none⟩=some v7/\Below W.heap.size W w':=by
 have:=h.below hb
 exact⟨this.c6,this.c7,hb⟩
theorem FK(t:ByteArray)(f:Bool)(a:ByteArray)(h1:t.size<=1000000)(h2:a.size<=1000000):AV.Small ⟨⟨#[99,105,100]⟩,false,⟨#[]⟩,t,false,⟨#[]⟩,f,a⟩ 1000000:=⟨(by decide:(⟨#[99,105,100]⟩:ByteArray).size<=1000000),GL _,h1,GL _,h2⟩
theorem Oe(S:ByteArray)(z:Int)(w:World):Sem.run prog (Instr.field 79 (Value.agg #[Value.string S,Value.int IntKind.i64 z]) 1) w=Result.ok (Value.int IntKind.i64 z) w:=by kernel_rfl
theorem CR{ps:List BP}{loc:AB}{v:aa}{n:Nat}(h:(iJ ps loc v).2=some n):n<ps.length:=by
 unfold iJ at h
 cases hr:bM v with
 | none=>rw[hr]at h;cases h
 | some x=>rw[hr]at h;exact xE _ _ _ h
theorem IR{ps:List BP}{loc:AB}{k:Nat}{v:aa}(h:(iJ ps loc v).2=none):jN ps loc k v=v:=by
 unfold jN
 rw[h]
theorem Js{ps:List BP}{loc:AB}{k n:Nat}{v:aa}(h:(iJ ps loc v).2=some n):jN ps loc k v=bQ (QY n k ((bM v).getD eZ).hasF ((bM v).getD eZ).frag):=by
 unfold jN
 rw[h]
theorem Ee{w:World}{b:Nat}{hv:Value}{hl:List Fl}{A:Option Addr}{cap:Nat}{ps:List XP}{root:Nat}(h:BN w b hv hl A cap ps root)(p:XP)(hp:p.loc.Small 270000)(s m:ByteArray)(hs:s.size<=100000)(k:Nat)(hmk:m.data.toList=gZ k)(hms:m.size<=1000)(hm:Max w)(ht:Tab w):
  Calls prog 134 #[.pointer (some ⟨b,0,none⟩),p.val,.string s,.string m] w fun e w'=>∃S,e=.returned (.string S)/\S.data.toList=jN (ps.map XP.bp) p.loc.ab k s.data.toList/\S.size<=10000000/\Below w.heap.size w w':=by
 have hw0:=hm.1
 have hbA:Below w.heap.size w (w.alloc (fq p)):=ag.alloc af _
 have hplen:=h.xl.len
 have HM:=Box.m hm
 have HM1:=Box.m (hm.below hbA hw0)
 have HT:=Box.m ht
 have HL:=Box.m (FU (h.below hbA) p hp s hs HM1.o)
 have HMK:=Box.m hmk
 obtain⟨R,HR⟩:∃R,Box (jN (ps.map XP.bp) p.loc.ab k s.data.toList=R):=⟨_,⟨rfl⟩⟩
 rw[HR.o]
 obtain⟨Ld,HLd⟩:∃Ld,Box (iJ (ps.map XP.bp) p.loc.ab s.data.toList=Ld):=⟨_,⟨rfl⟩⟩
 rw[HLd.o]at HL
 have HN:Box (Ld.2=none->R=s.data.toList):=⟨fun h0=>by rw[<-HR.o];exact IR (by rw[HLd.o];exact h0)⟩
 have HS:Box (∀n,Ld.2=some n->n<ps.length/\R=bQ (QY n k ((bM s.data.toList).getD eZ).hasF ((bM s.data.toList).getD eZ).frag)):=⟨fun n h0=>⟨by have:=CR (n:=n) (by rw[HLd.o];exact h0);rwa[Xu]at this,by rw[<-HR.o];exact Js (by rw[HLd.o];exact h0)⟩⟩
 obtain⟨hd,fs,bd,id,⟨b0,b1,b2,b3,b4,b5,b6,b7⟩⟩:=p
 clear h hp hm ht hmk HR HLd
 unfold fq at hbA HL HM1
 simp only at hbA HL HM1
 go_enter func134,ntmps134
 go_wp2_with fail
 refine HL.o.mono ?_
 rintro e w1 ⟨S1,rfl,hS1,hb1⟩
 have hb01:=hbA.trans (hb1.mono hbA.size)
 clear HL hS1
 obtain⟨x1,x2⟩:=Ld
 cases x2 with
 | none=>
  have HE:=Box.m (HN.o rfl)
  clear HN HS
  have hfd:=Oe S1 (-1) w1
  simp only[Ci,jB]
  go_wp2
  go_ret
  exact⟨_,rfl,HE.o.symm,by omega,hb01⟩
 | some n=>
  obtain⟨hnl,hE⟩:=HS.o n rfl
  have HE:=Box.m hE
  clear HN HS hE
  have k0:¬(n:Int)<0:=by omega
  have HM2:=Box.m (HM.o.below hb01 hw0)
  have hfd:=Oe S1 (n:Int) w1
  simp only[Ci,jB]
  go_wp2_with fail
  refine(xe s _ (by omega) HM2.o).mono ?_
  rintro e w2 ⟨rfl,hs2,hb2⟩
  have HZ:=Box.m (I7 s.data.toList)
  generalize rJ s.data.toList=a at hs2 HZ ⊢
  obtain⟨a0,a1,a2,a3,a4,a5,a6,a7⟩:=a
  have hb02:=hb01.trans (hb2.mono hb01.size)
  have hb03:Below w.heap.size w (w2.alloc (ko a0 a1 a2 a3 a4 a5 a6 a7)):=hb02.alloc hb02.size _
  have hg3:=aP w2 (ko a0 a1 a2 a3 a4 a5 a6 a7)
  have hfr:a7.size<=100000:=Ws hs2.fr hs
  have HF:Box (((bM s.data.toList).getD eZ).hasF=a6/\((bM s.data.toList).getD eZ).frag=a7.data.toList):=⟨by rw[<-HZ.o];exact⟨rfl,rfl⟩⟩
  have HT3:=Box.m (HT.o.below hb03 HT.o.lt)
  obtain⟨er,her⟩:∃er,MW s.data.toList=er:=⟨_,rfl⟩
  rw[her]
  clear HZ her hs2 HM2 HM1 HM HT hb1 hb2 hbA
  go_wp2_with fail
  generalize w2.alloc (.cells #[.string a0,.bool a1,.string a2,.string a3,.bool a4,.string a5,.bool a6,.string a7] 60)=W at hg3 hb03 HT3 ⊢
  have HK:=Box.m (dU hg3)
  clear hg3 hfd
  go_region_held3 (fun w'=>w'.cell? ⟨w2.heap.size,6,none⟩=some (.bool a6)/\w'.cell? ⟨w2.heap.size,7,none⟩=some (.string a7)/\Below W.heap.size W w')
   ((go_split_ands;exact YE HK.o (by first|exact ag.drew|assumption|exact ag.drew.trans hb5|exact ag.drew.trans (hb5.trans (hb6.mono hb5.size)))))
   (first
    | (go_at_call 72;refine(yC n m _ (by omega) (by omega) (HT3.o.below ((Below.refl W.heap.size W).drew) HT3.o.lt)).mono ?_;rintro e w5 ⟨t,rfl,ht5,hts5,hb5⟩;have HT5:=Box.m ht5;clear ht5)
    | (go_at_call 42;refine(rC ⟨⟨#[99,105,100]⟩,false,⟨#[]⟩,t,false,⟨#[]⟩,a6,a7⟩ _ (FK t a6 a7 (by omega) (by omega))).mono ?_;rintro e w6 ⟨rfl,hb6⟩))
  have hb06:Below w.heap.size w w6:=hb03.trans (((Below.refl W.heap.size W).drew.trans (hb5.trans (hb6.mono hb5.size))).mono hb03.size)
  have hwz:=j3 _ 1000000 (FK t a6 a7 (by omega) (by omega))
  have HWz:=Box.m hwz
  clear hwz
  have HRz:Box ((iG ⟨⟨#[99,105,100]⟩,false,⟨#[]⟩,t,false,⟨#[]⟩,a6,a7⟩).data.toList=R):=⟨by
   rw[oM,HE.o,HF.o.1,HF.o.2]
   unfold QY fA AV.ab
   rw[<-HMK.o,<-HT5.o]
   rfl⟩
  go_split_ands
  clear HE HF HMK HT5 HK HT3
  go_wp2
  go_ret
  exact⟨_,rfl,HRz.o,Ws HWz.o (by decide),hb06⟩
theorem N8(xs ys:List ByteArray):tls (xs++ys)=tls xs++tls ys:=by simp[tls]
theorem di(xs:List ByteArray):(tls xs).length=xs.length:=by simp[tls]
theorem Es{w:World}{b:Nat}{hv:Value}{hl:List Fl}{A:Option Addr}{cap:Nat}{ps:List XP}{root:Nat}(h:BN w b hv hl A cap ps root)(p:XP)(hp:XS w p)(m:ByteArray)(k:Nat)(hmk:m.data.toList=gZ k)(hms:m.size<=1000)(hG:PGB w w.heap.size)(hm:Max w)(ht:Tab w)(hout:(mW (ps.map XP.bp) p.bp k).length<=1000000000):
  Calls prog 73 #[.pointer (some ⟨b,0,none⟩),p.val,.string m] w fun e w'=>∃S,e=.returned (.tuple #[.string S,.nilIface])/\S.data.toList=mW (ps.map XP.bp) p.bp k/\Below w.heap.size w w':=by
 have hw0:=hm.1
 have hbA:Below w.heap.size w (w.alloc (fq p)):=ag.alloc af _
 have hgA:=aP w (fq p)
 have HX:Box (∀w':World,w'.heap[w.heap.size]?=some (fq p)->XC w' w.heap.size 0 p):=⟨fun w' h'=>uh h'⟩
 have HGA:=Box.m ((hG.below hbA).up hbA.size)
 have HMA:=Box.m (hm.below hbA hw0)
 have HB:=Box.m h
 have HP:=Box.m hp
 have HM:=Box.m hm
 have HT:=Box.m ht
 have HG:=Box.m hG
 have HMK:=Box.m hmk
 have hbs:=hp.bs
 have HLk:=Box.m (Dj p _ (hp.below hbA) HGA.o HMA.o)
 have HBL:Box (∀(w1:World) (s:ByteArray),Below w.heap.size w w1->s.size<=100000->Calls prog 134 #[.pointer (some ⟨b,0,none⟩),p.val,.string s,.string m] w1 fun e w'=>∃S,e=.returned (.string S)/\S.data.toList=jN (ps.map XP.bp) p.loc.ab k s.data.toList/\S.size<=10000000/\Below w1.heap.size w1 w'):=⟨fun w1 s hb1 hs=>Ee (h.below hb1) p hp.ad s m hs k hmk hms (hm.below hb1 hw0) (ht.below hb1 ht.lt)⟩
 have HSz:Box (∀v∈dO p.bp,v.length<=100000):=⟨fun v hv=>by
  unfold dO at hv
  split at hv
  ·have h1:=pQ _ v hv
   have h2:p.bp.body.length=p.bd.size:=ae p.bd
   omega
  ·cases hv⟩
 have HIt:Box (dO p.bp≠[]->(dO p.bp).length=eF (nD p.bd.data.toList)):=⟨fun hne=>by
  unfold dO at hne ⊢
  split
  ·unfold um
   rw[Xu,gT]
   rfl
  ·rename_i hc
   rw[if_neg hc]at hne
   exact absurd rfl hne⟩
 obtain⟨R,HR⟩:∃R,Box (mW (ps.map XP.bp) p.bp k=R):=⟨_,⟨rfl⟩⟩
 rw[HR.o]at hout ⊢
 have HR0:Box (dO p.bp=[]->R=p.bd.data.toList):=⟨fun h0=>by rw[<-HR.o];unfold mW;rw[if_pos h0];rfl⟩
 have HR1:Box (dO p.bp≠[]->R=gV (nD p.bd.data.toList) (((dO p.bp).map (jN (ps.map XP.bp) p.loc.ab k)).map eY) (tlP p.bd.data.toList)):=⟨fun h0=>by rw[<-HR.o];unfold mW;rw[if_neg h0];rfl⟩
 generalize dO p.bp=LL at HLk HSz HIt HR0 HR1
 obtain⟨V,HV⟩:∃V,Box (jN (ps.map XP.bp) p.loc.ab k=V):=⟨_,⟨rfl⟩⟩
 rw[HV.o]at HBL HR1
 obtain⟨hd,fs,bd,id,⟨b0,b1,b2,b3,b4,b5,b6,b7⟩⟩:=p
 clear h hp hm ht hmk hG HR HV
 unfold fq at hbA hgA HX HGA HMA HLk
 simp only at hbA hgA HX HGA HMA HLk hbs
 go_enter func73,ntmps73
 go_wp2_with fail
 refine HLk.o.mono ?_
 rintro e w1 ⟨v1,rfl,⟨ls,hO1,hls⟩,hb1⟩
 have hb01:=hbA.trans (hb1.mono hbA.size)
 have hg1:=az hb1 hgA
 obtain⟨AL,capL,hv1,hcL⟩:=hO1.len
 subst hv1
 have HO1:=Box.m hO1
 have HLS:=Box.m hls
 have hlw:w.heap.size<w1.heap.size:=(Array.getElem?_eq_some_iff.1 hg1).1
 clear HLk hO1 hls hgA hb1 hbA HGA HMA
 by_cases h0:ls.length=0
 ·have HE:=Box.m (HR0.o (by rw[<-HLS.o,List.eq_nil_of_length_eq_zero h0];rfl))
  obtain⟨-,d1,-⟩:=HX.o _ hg1
  simp only[VQ]at d1
  have hz:((ls.length:Int)==0)=true:=by rw[h0];rfl
  clear HR0 HR1 HIt HSz HBL HLS HX
  go_wp2
  go_ret2
  exact⟨_,rfl,HE.o.symm,hb01⟩
 ·have hLn:LL≠[]:=fun e=>h0 (by have:=congrArg List.length HLS.o;rw[e,Xu]at this;exact this)
  have HE:=Box.m (HR1.o hLn)
  have hct:=HIt.o hLn
  have hLl:LL.length=ls.length:=by rw[<-HLS.o,Xu]
  have HCT:Box (ls.length=eF (nD bd.data.toList)):=⟨by rw[<-hct,hLl]⟩
  have hll:ls.length<=1000000:=by
   have h1:=jZ none _ _ _ (fV bd.data.toList)
   have h2:bd.data.toList.length=bd.size:=ae bd
   have h3:=HCT.o
   omega
  have HSl:Box (∀j (hj:j<ls.length),ls[j].2.2.size<=100000):=⟨fun j hj=>by
   have:=HSz.o ls[j].2.2.data.toList (by rw[<-HLS.o];exact List.mem_map_of_mem (f:=fun x:Lk=>x.2.2.data.toList) (List.getElem_mem hj))
   rwa[ae]at this⟩
  have hne:((ls.length:Int)==0)=false:=beq_eq_false_iff_ne.2 (by omega)
  rcases HO1.o.shape with⟨_,hn⟩|⟨g,cg,hg,_,hg2,_⟩
  ·rw[hn]at h0;exact absurd rfl h0
  simp only[Value.slice.injEq]at hg
  obtain⟨rfl,_,rfl⟩:=hg
  have hgl:g<w1.heap.size:=hg2
  clear HR0 HR1 HIt HSz hct hLl hLn hg2 h0
  go_wp2
  go_loopw [9,21] (fun x i wr=>∃(j:Nat) (xs:List ByteArray),j<=ls.length/\i=.int .i64 j/\xs.length<=j/\Box (aV wr w1.heap.size x xs)/\Box (tls xs=(ls.take j).map fun l=>V l.2.2.data.toList)/\Box (∀y∈xs,y.size<=10000000)/\Below w1.heap.size w1 wr) (fun _ i _=>ls.length - (intOf i).toNat)
  case atStart=>exact⟨0,[],GL _,rfl,Nat.le_refl _,⟨aV.nil _ _⟩,⟨rfl⟩,⟨fun y hy=>by cases hy⟩,Below.refl _ _⟩
  case round=>
   obtain⟨j,xs,hj,rfl,hxj,HO,HV,HY,hb⟩:=hrel
   have hsz:=hb.size
   by_cases hlt:j<ls.length
   ·obtain⟨e0,e1,e2⟩:=(HO1.o.below hb af).cell j hlt
    have hs2:=HSl.o j hlt
    have HV2:Box ((ls.take (j+1)).map (fun l=>V l.2.2.data.toList)=(ls.take j).map (fun l=>V l.2.2.data.toList)++[V ls[j].2.2.data.toList]):=⟨by rw[List.take_add_one,List.getElem?_eq_getElem hlt,List.map_append];rfl⟩
    generalize ls[j].1=q0 at e0
    generalize ls[j].2.1=q1 at e1
    generalize ls[j].2.2=q2 at e2 hs2 HV2
    have hbB:Below w1.heap.size w1 (wr.alloc (.cells #[.int .i64 (q0:Int),.int .i64 (q1:Int),.string q2] 84)):=hb.alloc hsz _
    have hbBw:=hb01.trans (hbB.mono hb01.size)
    obtain⟨d0,d1,d2,d3,d4,d5,d6,d7,d8,d9,da⟩:=HX.o _ (az hbB hg1)
    simp only[VQ]at d0 d1 d2 d3 d4 d5 d6 d7 d8 d9 da
    have HC:=Box.m (HBL.o _ q2 hbBw hs2)
    have k7:(j:Int)<(ls.length:Int):=by omega
    have k8:(0:Int)<=(j:Int):=by omega
    go_wp2_with fail
    refine HC.o.mono ?_
    rintro e w3 ⟨S,rfl,hS,hSz,hb3⟩
    have hb13:=hbB.trans (hb3.mono hbB.size)
    have hO3:aV w3 w1.heap.size u9 xs:=aV.below (World.ownsRow.alloc HO.o _) hb3 af
    have HS:=Box.m hS
    have hl:xs.length+1<=10000000:=by omega
    have hsz3:=hb13.size
    clear HC hS d0 d1 d2 d3 d4 d5 d6 d7 d8 d9 da e0 e1 e2
    go_wp2_with (at_builtin;refine JV _ w1 rfl (.tmp 25) (.tmp 32) rfl w1.heap.size _ xs rfl (World.ownsRow.alloc hO3 _) _ _ S rfl (by simp) hl (by simp;omega) (hb13.alloc hsz3 _) ?_;intro v4 w4 hO4 hb4)
    go_roundw
    case rel=>
     refine⟨j+1,xs++[S],by omega,by go_num,by rw[List.length_append];simp;omega,⟨hO4⟩,⟨by rw[N8,HV.o,HV2.o,<-HS.o];rfl⟩,⟨fun y hy=>?_⟩,hb4⟩
     rcases List.mem_append.1 hy with hy|hy
     ·exact HY.o y hy
     ·rw[List.mem_singleton.1 hy];exact hSz
    case measure=>simp[intOf];omega
   ·have HV3:Box (tls xs=LL.map V):=⟨by rw[HV.o,List.take_of_length_le (by omega),<-HLS.o,List.map_map];rfl⟩
    have hxl:xs.length=ls.length:=by rw[<-di,HV3.o,Xu,<-HLS.o,Xu]
    obtain⟨A9,c9,hx9⟩:∃A9 c9,u9=.slice A9 xs.length c9:=by
     rcases HO.o.shape with⟨h1,h2⟩|⟨g9,c9,h1,_⟩
     ·exact⟨none,0,by rw[h1,h2];rfl⟩
     ·exact⟨_,_,h1⟩
    subst hx9
    have hbw:=hb01.trans (hb.mono hb01.size)
    obtain⟨-,d1,-⟩:=HX.o _ (az hb hg1)
    simp only[VQ]at d1
    have HGr:=Box.m ((HG.o.below hbw).up hbw.size)
    have HCx:Box (xs.length=eF (nD bd.data.toList)):=⟨hxl.trans HCT.o⟩
    have HOu:Box (gV (nD bd.data.toList) ((tls xs).map eY) (tlP bd.data.toList)=R):=⟨by rw[HV3.o,HE.o]⟩
    clear hxl HE HV HV3 HBL HSl HLS
    go_wp2_with fail
    refine(Gv bd A9 c9 xs _ HGr.o (by omega) _ _ (fV _) (aV.tl HO.o) (fun y hy=>by have:=HY.o y hy;omega) HCx.o (by rw[HOu.o];exact hout)).mono ?_
    rw[HOu.o]
    rintro e w5 ⟨S,rfl,hS,hb5⟩
    have HS:=Box.m hS
    clear hS HCx HOu
    go_wp2
    go_ret2
    exact⟨_,rfl,HS.o,hbw.trans (hb5.mono hbw.size)⟩
end Go.Proofs.YtkldkhdigkpniaaGreatDoor
