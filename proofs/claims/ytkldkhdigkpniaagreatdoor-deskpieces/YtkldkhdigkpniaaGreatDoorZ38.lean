import Derived.Test.YtkldkhdigkpniaaGreatDoorZ28
import Derived.Test.YtkldkhdigkpniaaGreatDoorZ36
set_option maxHeartbeats 2000000
set_option maxRecDepth 100000
open List renaming length_append → GL, length_cons → VQ, map_map → Ws, getElem_mem → Xu, length_map → ZV, map_append → ZW
namespace Go.Proofs.YtkldkhdigkpniaaGreatDoor
open Go.RowKit Go.Proofs.Px Go.Proofs.Tryz
theorem tK:∀(k:Nat) (s:aa),(fJ k s).length<=s.length
 | 0,s=>by cases s<;>simp[fJ]
 | k+1,[]=>by simp[fJ]
 | k+1,c::r=>by
  show List.length (match qz.find? (fun w=>w.1.isPrefixOf (ah (c::r)))with|some w=>w.2::fJ k ((c::r).drop w.1.length)|none=>c::fJ k r)<=_
  split
  ·rename_i w hf
   have hm:=List.mem_of_find?_eq_some hf
   have hp:0<w.1.length:=by
    have key:∀w∈qz,0<w.1.length:=by decide
    exact key w hm
   have h1:=tK k ((c::r).drop w.1.length)
   simp only[VQ,List.length_drop]at h1 ⊢
   omega
  ·have h1:=tK k r
   simp only[VQ]
   omega
theorem pQ(s:aa):∀v∈um s,v.length<=s.length:=by
 intro v hv
 unfold um at hv
 obtain⟨q,hq,rfl⟩:=List.mem_map.1 hv
 obtain⟨x,u,t,h1,h2⟩:=x9 (nD s) 0 (tlP s) q hq
 have hs:=(lD s (nD s) (tlP s) (fV s) []).1
 rw[h1]
 have h3:(dH x).length<=x.length:=tK _ _
 have h4:=congrArg List.length (hs.trans h2)
 simp only[GL]at h4
 omega
def LKs(w:World)(B:Nat)(v:Value)(l:List (aa)):Prop:=∃ls:List Lk,gD w B v ls/\ls.map (fun x=>x.2.2.data.toList)=l
theorem Dj(p:XP)(w:World)(hp:XS w p)(hG:PGB w w.heap.size)(hm:Max w):
  Calls prog 92 #[p.val] w fun e w'=>∃v,e=.returned v/\LKs w' w.heap.size v (dO p.bp)/\Below w.heap.size w w':=by
 have hw0:=hm.1
 have hbA:Below w.heap.size w (w.alloc (fq p)):=ag.alloc af _
 have hgA:=aP w (fq p)
 have HX:Box (∀w':World,w'.heap[w.heap.size]?=some (fq p)->XC w' w.heap.size 0 p):=⟨fun w' h'=>uh h'⟩
 have HF:=Box.m (hp.fl.below hbA af)
 have HS:=Box.m hp.hs
 have hbs:=hp.bs
 have HM:=Box.m hm
 have HM1:=Box.m (hm.below hbA hw0)
 have HG:=Box.m hG
 obtain⟨R,HR⟩:∃R,Box (dO p.bp=R):=⟨_,⟨rfl⟩⟩
 rw[HR.o]
 obtain⟨A,cap,hv,hcap,hcell⟩:=hp.fl
 obtain⟨hd,fs,bd,id,⟨b0,b1,b2,b3,b4,b5,b6,b7⟩⟩:=p
 simp only at hv
 subst hv
 clear hp hcell hG hm hcap
 unfold fq at hbA hgA HX HF HM1
 simp only at hbA hgA HX HF HM1 HS hbs
 go_enter func92,ntmps92
 go_wp2_with fail
 refine(wQ _ fs _ HS.o HF.o HM1.o).mono ?_
 rintro e w1 ⟨⟨m,v,P,rfl,hm1,-,hO,-,-⟩,hb1⟩
 have hb01:=hbA.trans (hb1.mono hbA.size)
 obtain⟨d0,d1,-⟩:=HX.o _ (az hb1 hgA)
 simp only[Nat.zero_add]at d0 d1
 by_cases he:m.toList=[116,101,120,116,47,104,116,109,108]
 ·have HE:Box (R=um bd.data.toList):=⟨by
   rw[<-HR.o]
   unfold dO
   have:(iH (XP.bp ⟨.slice A fs.length cap,fs,bd,id,⟨b0,b1,b2,b3,b4,b5,b6,b7⟩⟩).head).1=Si:=by
    show(iH (fs.map fl2)).1=Si
    rw[<-hm1,<-ByteArray.toList_eq,he]
    rfl
   rw[if_pos this]
   rfl⟩
  have HG1:=Box.m ((HG.o.below hb01).up hb01.size)
  clear HR hm1 hO
  go_wp2_with fail
  refine(yK bd _ HG1.o (by omega) _ _ (fV _)).mono ?_
  rintro e w2 ⟨v2,ls,rfl,hO2,hl2,hb2⟩
  have hb02:=hb01.trans (hb2.mono hb01.size)
  have HL:Box (LKs w2 w.heap.size v2 R):=⟨ls,hO2.mono hb01.size,by
   rw[HE.o]
   unfold um
   rw[<-hl2,Ws]
   rfl⟩
  rcases hO2.shape with⟨rfl,_⟩|⟨g2,cap2,rfl,_⟩
  all_goals
   go_wp2
   go_ret
   exact⟨_,rfl,HL.o,hb02⟩
 ·have HE:Box (R=[]):=⟨by
   rw[<-HR.o]
   unfold dO
   have:¬(iH (XP.bp ⟨.slice A fs.length cap,fs,bd,id,⟨b0,b1,b2,b3,b4,b5,b6,b7⟩⟩).head).1=Si:=by
    show ¬(iH (fs.map fl2)).1=Si
    rw[<-hm1,<-ByteArray.toList_eq]
    exact he
   rw[if_neg this]⟩
  have hn:(m.toList==[116,101,120,116,47,104,116,109,108])=false:=beq_eq_false_iff_ne.2 he
  clear HR hm1 hO
  go_wp2
  go_ret
  exact⟨_,rfl,⟨[],gD.nil _ _,HE.o.symm⟩,hb01⟩
abbrev Ld:=ByteArray×Option Nat
def ld2(l:Ld):aa×Option Nat:=(l.1.data.toList,l.2)
def kS(L:List Ld):List Value:=L.flatMap fun l=>[Value.string l.1,jB l.2]
theorem DY(L M:List Ld):kS (L++M)=kS L++kS M:=by simp[kS]
theorem NC(L:List Ld)(k:Nat)(hk:k<L.length):(kS L)[k*2]?=some (.string L[k].1)/\(kS L)[k*2+1]?=some (jB L[k].2):=by
 induction L generalizing k with
 | nil=>exact absurd hk (by simp)
 | cons f L ih=>
  have e:kS (f::L)=Value.string f.1::jB f.2::kS L:=rfl
  cases k with
  | zero=>rw[e];exact⟨rfl,rfl⟩
  | succ k=>
   have:=ih k (by simpa using hk)
   have e1:(k+1)*2=k*2+1+1:=by omega
   rw[e,e1]
   exact this
def mi(w:World)(B:Nat)(v:Value)(L:List Ld):Prop:=w.ownsRow B 79 2 v L.length (kS L)
theorem Tryz.infoLead:(prog.info? 79).map (fun i=>(i.zero,i.size,i.bytes))=some (some (.agg #[.string ⟨#[]⟩,.int .i64 0]),2,24):=by kernel_rfl
theorem mi.nil(w:World)(B:Nat):mi w B (.slice none 0 0) []:=World.ownsRow_nil _ _ _ _
theorem mi.below{w w':World}{B C:Nat}{v:Value}{L:List Ld}(h:mi w B v L)(hb:Below C w w')(hC:w.heap.size<=C):mi w' B v L:=by
 obtain⟨h1,h2⟩:=h
 refine⟨h1,?_⟩
 rcases h2 with h2|⟨g,cap,cur,a,b,c,d⟩
 ·exact .inl h2
 ·refine .inr ⟨g,cap,cur,a,b,?_,d⟩
  rw[hb.block g ?_]
  ·exact c
  ·have:=(Array.getElem?_eq_some_iff.1 c).1
   omega
theorem mi.mono{w:World}{B B':Nat}{v:Value}{L:List Ld}(h:mi w B v L)(hB:B'<=B):mi w B' v L:=by
 obtain⟨h1,h2⟩:=h
 refine⟨h1,?_⟩
 rcases h2 with h2|⟨g,cap,cur,a,b,c⟩
 ·exact .inl h2
 ·exact .inr ⟨g,cap,cur,a,Nat.le_trans hB b,c⟩
theorem mi.shape{w:World}{B:Nat}{v:Value}{L:List Ld}(h:mi w B v L):
  (v=.slice none 0 0/\L=[])\/∃g cap,v=.slice (some ⟨g,0,none⟩) L.length cap/\B<=g/\g<w.heap.size/\L.length<=cap:=by
 rcases h.2 with⟨a,b⟩|⟨g,cap,cur,a,b,c,d,e,_⟩
 ·exact .inl ⟨a,List.eq_nil_of_length_eq_zero b⟩
 ·exact .inr ⟨g,cap,a,b,(Array.getElem?_eq_some_iff.1 c).1,d⟩
theorem mi.cell{w:World}{B g cap n:Nat}{L:List Ld}(h:mi w B (.slice (some ⟨g,0,none⟩) n cap) L)(k:Nat)(hk:k<L.length):w.cell? ⟨g,k*2,none⟩=some (.string L[k].1)/\w.cell? ⟨g,k*2+1,none⟩=some (jB L[k].2):=by
 have hn:n=L.length:=by
  rcases h.2 with⟨a,_⟩|⟨g',cap',cur,a,_⟩
  ·cases a
  ·simp only[Value.slice.injEq]at a;exact a.2.1
 subst hn
 have h':w.ownsRow B 79 2 (.slice (some ⟨g,0,none⟩) L.length cap) L.length (kS L):=h
 have hg:=NC L k hk
 exact⟨(World.ownsRow.cellAt h' (k*2) (by omega)).trans hg.1,(World.ownsRow.cellAt h' (k*2+1) (by omega)).trans hg.2⟩
theorem XG{ops:Array Oper}{rest:List Oper}{o:Oper}{a:Act}{Q:Exit->Act->World->Prop}(W w0:World)(hgd:o.guard=none)(s x:Operand)(ho:o.op=.call { callee:=.builtin .append,args:=#[s,x],argTypes:=#[75,75] })
  (B:Nat) (v:Value) (L:List Ld) (hs:a.eval s=v) (hown:mi W B v L) (b c:Nat) (f:Ld) (hx:a.eval x=.slice (some ⟨b,0,none⟩) 1 c) (h0:W.cell? ⟨b,0,none⟩=some (.string f.1)) (h1:W.cell? ⟨b,1,none⟩=some (jB f.2)) (hl:L.length+1<=1000000000) (hB:B<=W.heap.size) (hb:Below B w0 W)
  (h:∀v' w',mi w' B v' (L++[f])->Below B w0 w'->wpList prog ops Q rest (a.put o.dst v') w'):wpList prog ops Q (o::rest) a W:=by
 obtain⟨i0,hi,hz0,hz1,hz2⟩:=info_parts Tryz.infoLead
 refine wpList_append_own W hgd s x 75 ho B 79 i0 (.agg #[.string ⟨#[]⟩,.int .i64 0]) 2 24 underlying75 hi hz0 hz1 hz2 rfl (by decide) v L.length (kS L) hs hown ⟨b,0,none⟩ 1 c (kS [f]) hx rfl ?_ ?_ (by unfold maxLen;omega) (by omega) hB ?_
 ·intro j u hj
  have hjl:j<2:=(List.getElem?_eq_some_iff.1 hj).1
  rw[Addr.add_lit,Nat.zero_add]
  match j,hjl,hj with
  | 0,_,hj=>rw[h0];exact hj
  | 1,_,hj=>rw[h1];exact hj
 ·intro u hu
  have:u=.string f.1\/u=jB f.2:=by simpa[kS]using hu
  rcases this with rfl|rfl
  ·rfl
  ·cases f.2<;>rfl
 ·intro v' w' h2 h3 _
  refine h v' w' ?_ (hb.grown h3 hB (fun k hk=>(World.ownsRow.lt hown k hk).1))
  unfold mi
  rw[GL,DY]
  exact h2
theorem NZ{w:World}{b:Nat}{hv:Value}{hl:List Fl}{A:Option Addr}{cap:Nat}{ps:List XP}{root:Nat}(h:BN w b hv hl A cap ps root)(k:Nat)(hk:k<ps.length)(hG:PGB w w.heap.size)(hm:Max w):
  Calls prog 50 #[.pointer (some ⟨b,0,none⟩),.int .i64 (k:Int)] w fun e w'=>∃v L,e=.returned (.tuple #[v,.nilIface])/\mi w' w.heap.size v L/\L.map ld2=jD (ps.map XP.bp) ps[k].bp/\Below w.heap.size w w':=by
 have hw0:=hm.1
 have HH:=Box.m (O1 h k hk)
 have c1:=h.c1
 have hcap:=h.cap
 obtain⟨g,off,e1,hx⟩:=h.xl.at_ k hk
 subst e1
 have HXS:=Box.m (h.xl.sm ps[k] (Xu hk))
 generalize ps[k]=p at hx HXS ⊢
 have hbA:Below w.heap.size w (w.alloc (fq p)):=ag.alloc af _
 have hgA:=aP w (fq p)
 have HX:Box (∀w':World,w'.heap[w.heap.size]?=some (fq p)->XC w' w.heap.size 0 p):=⟨fun w' h'=>uh h'⟩
 have HLk:=Box.m (Dj p _ (HXS.o.below hbA) ((hG.below hbA).up hbA.size) (hm.below hbA hw0))
 have HBL:Box (∀(w1:World) (s:ByteArray),Below w.heap.size w w1->s.size<=100000->Calls prog 93 #[.pointer (some ⟨b,0,none⟩),p.val,.string s] w1 fun e w'=>∃S,e=.returned (Ci S (iJ (ps.map XP.bp) p.loc.ab s.data.toList).2)/\S.data.toList=(iJ (ps.map XP.bp) p.loc.ab s.data.toList).1/\Below w1.heap.size w1 w'):=⟨fun w1 s hb1 hs=>FU (h.below hb1) p HXS.o.ad s hs (hm.below hb1 hw0)⟩
 have hbs:=HXS.o.bs
 have HSz:Box (∀v∈dO p.bp,v.length<=100000):=⟨fun v hv=>by
  unfold dO at hv
  split at hv
  ·have h1:=pQ _ v hv
   have h2:p.bp.body.length=p.bd.size:=ae p.bd
   omega
  ·cases hv⟩
 have HLen:Box ((dO p.bp).length<=1000000):=⟨by
  unfold dO
  split
  ·unfold um
   rw[ZV,gT]
   have h1:=jZ none _ _ _ (fV p.bp.body)
   have h2:p.bp.body.length=p.bd.size:=ae p.bd
   omega
  ·exact Nat.zero_le _⟩
 have hle:jD (ps.map XP.bp) p.bp=(dO p.bp).map (iJ (ps.map XP.bp) p.loc.ab):=rfl
 rw[hle]
 clear hle
 generalize dO p.bp=LL at HLk HSz HLen ⊢
 obtain⟨V,HV⟩:∃V,Box (iJ (ps.map XP.bp) p.loc.ab=V):=⟨_,⟨rfl⟩⟩
 rw[HV.o]at HBL ⊢
 have k1:(0:Int)<=(k:Int):=by omega
 have k2:(k:Int)<(ps.length:Int):=by omega
 obtain⟨AH,capH,hvH,-,-⟩:=_root_.id HXS.o.fl
 obtain⟨hd,fs,bd,id,⟨b0,b1,b2,b3,b4,b5,b6,b7⟩⟩:=p
 simp only at hvH
 subst hvH
 obtain⟨f0,f1,f2,f3,f4,f5,f6,f7,f8,f9,fa⟩:=hx
 unfold fq at hbA hgA HX HLk
 simp only at hbA hgA HX HLk f0 f1 f2 f3 f4 f5 f6 f7 f8 f9 fa
 clear h hG hm HXS HV
 go_enter func50,ntmps50
 go_wp2_with (go_at_call 66;refine HH.o.mono ?_;rintro e w' ⟨rfl,rfl⟩)
 refine HLk.o.mono ?_
 rintro e w1 ⟨v1,rfl,⟨ls,hO1,hls⟩,hb1⟩
 have hb01:=hbA.trans (hb1.mono hbA.size)
 have hg1:=az hb1 hgA
 obtain⟨AL,capL,hv1,hcL⟩:=hO1.len
 subst hv1
 have HO1:=Box.m hO1
 have HLS:=Box.m hls
 have hll:ls.length<=1000000:=by have:=HLen.o;rw[<-hls,ZV]at this;exact this
 have HSl:Box (∀j (hj:j<ls.length),ls[j].2.2.size<=100000):=⟨fun j hj=>by
  have:=HSz.o ls[j].2.2.data.toList (by rw[<-hls];exact List.mem_map_of_mem (f:=fun x:Lk=>x.2.2.data.toList) (Xu hj))
  rwa[ae]at this⟩
 clear HLk hO1 hls hgA hb1 hbA HH HSz HLen f0 f1 f2 f3 f4 f5 f6 f7 f8 f9 fa
 go_wp2
 go_loopw [7,25] (fun x i wr=>∃(j:Nat) (L:List Ld),j<=ls.length/\i=.int .i64 j/\L.length<=j/\Box (mi wr w1.heap.size x L)/\Box (L.map ld2=(ls.take j).map fun l=>V l.2.2.data.toList)/\Below w1.heap.size w1 wr) (fun _ i _=>ls.length - (intOf i).toNat)
 case atStart=>exact⟨0,[],Nat.zero_le _,rfl,Nat.le_refl _,⟨mi.nil _ _⟩,⟨rfl⟩,Below.refl _ _⟩
 case round=>
  obtain⟨j,L,hj,rfl,hxj,HO,HVL,hb⟩:=hrel
  have hsz:=hb.size
  by_cases hlt:j<ls.length
  ·rcases HO1.o.shape with⟨_,hn⟩|⟨gl,cg,hg,_,hg2,_⟩
   ·rw[hn]at hlt;exact absurd hlt (by simp)
   simp only[Value.slice.injEq]at hg
   obtain⟨rfl,_,rfl⟩:=hg
   obtain⟨e0,e1,e2⟩:=(HO1.o.below hb af).cell j hlt
   have hs2:=HSl.o j hlt
   have HV2:Box ((ls.take (j+1)).map (fun l=>V l.2.2.data.toList)=(ls.take j).map (fun l=>V l.2.2.data.toList)++[V ls[j].2.2.data.toList]):=⟨by rw[List.take_add_one,List.getElem?_eq_getElem hlt,ZW];rfl⟩
   generalize ls[j].1=q0 at e0
   generalize ls[j].2.1=q1 at e1
   generalize ls[j].2.2=q2 at e2 hs2 HV2
   have hbB:Below w1.heap.size w1 (wr.alloc (.cells #[.int .i64 (q0:Int),.int .i64 (q1:Int),.string q2] 84)):=hb.alloc hsz _
   have hbBw:=hb01.trans (hbB.mono hb01.size)
   obtain⟨d0,d1,d2,d3,d4,d5,d6,d7,d8,d9,da⟩:=HX.o _ (az hbB hg1)
   simp only[Nat.zero_add]at d0 d1 d2 d3 d4 d5 d6 d7 d8 d9 da
   have HC:=Box.m (HBL.o _ q2 hbBw hs2)
   have k7:(j:Int)<(ls.length:Int):=by omega
   have k8:(0:Int)<=(j:Int):=by omega
   generalize V q2.data.toList=R at HC HV2
   obtain⟨R1,R2⟩:=R
   obtain⟨z,HZ⟩:∃z,Box (jB R2=.int .i64 z):=by
    cases R2 with
    | none=>exact⟨-1,⟨rfl⟩⟩
    | some i=>exact⟨(i:Int),⟨rfl⟩⟩
   simp only[Ci,HZ.o]at HC
   go_wp2_with fail
   refine HC.o.mono ?_
   rintro e w3 ⟨S,rfl,hS,hb3⟩
   have hb13:=hbB.trans (hb3.mono hbB.size)
   have hO3:mi w3 w1.heap.size u7 L:=mi.below (World.ownsRow.alloc HO.o _) hb3 af
   have HS:=Box.m hS
   have hl:L.length+1<=1000000000:=by omega
   have hsz3:=hb13.size
   clear HC hS d0 d1 d2 d3 d4 d5 d6 d7 d8 d9 da e0 e1 e2
   go_wp2_with (at_builtin;refine XG _ w1 rfl (.tmp 29) (.tmp 35) rfl w1.heap.size _ L rfl (World.ownsRow.alloc hO3 _) _ _ (S,R2) rfl (by simp) (by rw[HZ.o];simp) hl (by simp;omega) (hb13.alloc hsz3 _) ?_;intro v4 w4 hO4 hb4)
   go_roundw
   case rel=>
    exact⟨j+1,L++[(S,R2)],by omega,by go_num,by rw[GL];simp;omega,⟨hO4⟩,⟨by rw[ZW,HVL.o,HV2.o,<-show S.data.toList=R1 from HS.o];rfl⟩,hb4⟩
   case measure=>simp[intOf];omega
  ·have HV3:Box (L.map ld2=LL.map V):=⟨by rw[HVL.o,List.take_of_length_le (by omega),<-HLS.o,Ws];rfl⟩
   have hbw:=hb01.trans (hb.mono hb01.size)
   have hOw:=mi.mono HO.o hb01.size
   clear HVL HLS HBL HSl
   rcases hOw.shape with⟨rfl,_⟩|⟨g2,cap2,rfl,_⟩
   all_goals
    go_wp2
    go_ret2
    exact⟨_,_,rfl,hOw,HV3.o,hbw⟩
end Go.Proofs.YtkldkhdigkpniaaGreatDoor
