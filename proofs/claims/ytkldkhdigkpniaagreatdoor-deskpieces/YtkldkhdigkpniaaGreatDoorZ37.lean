import Derived.Test.YtkldkhdigkpniaaGreatDoorZ36
set_option maxHeartbeats 4000000
set_option maxRecDepth 100000
open Go.World renaming block_lt_of_cell? → GL
open Nat renaming le_refl → VQ, zero_add → Ws
open List renaming length_map → Xu, length_drop → ZV, length_append → ZW, length_take → ZX, map_cons → ZY, map_drop → ZZ
namespace Go.Proofs.YtkldkhdigkpniaaGreatDoor
open Go.RowKit Go.Proofs.Px Go.Proofs.Tryz
def TL(w:World)(v:Value)(xs:List ByteArray):Prop:=∃A cap,v=.slice A xs.length cap/\xs.length<=cap/\∀k (hk:k<xs.length),∃b off,A=some ⟨b,off,none⟩/\w.cell? ⟨b,off+k,none⟩=some (.string xs[k])
theorem TL.below{w w':World}{v:Value}{xs:List ByteArray}(h:TL w v xs)(hb:Below w.heap.size w w'):TL w' v xs:=by
 obtain⟨A,cap,h1,h2,h3⟩:=h
 refine⟨A,cap,h1,h2,fun k hk=>?_⟩
 obtain⟨b,off,h4,h5⟩:=h3 k hk
 exact⟨b,off,h4,(hb.cell (p:=⟨b,off+k,none⟩) (GL w _ h5)).trans h5⟩
theorem aV.tl{w:World}{B:Nat}{v:Value}{xs:List ByteArray}(h:aV w B v xs):TL w v xs:=by
 rcases h.shape with⟨rfl,rfl⟩|⟨g,cap,rfl,_,_,hc,_,hk⟩
 ·exact⟨_,_,rfl,VQ _,fun k hk=>absurd hk (by simp)⟩
 ·exact⟨_,_,rfl,hc,fun k h=>⟨g,0,rfl,by rw[Ws];exact hk k h⟩⟩
def tls(xs:List ByteArray):List (aa):=xs.map fun x=>x.data.toList
theorem XH{s tl T:aa}{lks:List (Nat×Nat×aa)}{xs:List (aa)}{d:Nat}{O:aa}(h:zM s tl T lks xs d O):O.length<=T.length:=by
 obtain⟨its,pend,_,_,_,h3,_⟩:=h.ex
 have:=congrArg List.length h3
 rw[ZW]at this
 omega
theorem Jj{α β:Type}(f:α->β)(l:List α)(k:Nat)(h:k<l.length):(l.drop k).map f=f l[k]::(l.drop (k+1)).map f:=by
 rw[List.drop_eq_getElem_cons h,ZY]
theorem Gv(pg:ByteArray)(A:Option Addr)(cap:Nat)(xs:List ByteArray)(w:World)(hG:PGB w w.heap.size)(hl:pg.size<=100000000)(its:List dD)(tl:aa)(hR:Run none pg.data.toList its tl)(hX:TL w (.slice A xs.length cap) xs)(hxs:∀x∈xs,x.size<=100000000)(hn:xs.length=eF its)(hT:(gV its ((tls xs).map eY) tl).length<=1000000000):
  Calls prog 135 #[.string pg,.slice A xs.length cap] w fun e w'=>∃S:ByteArray,e=.returned (.tuple #[.string S,.nilIface])/\S.data.toList=gV its ((tls xs).map eY) tl/\Below w.heap.size w w':=by
 obtain⟨T,HT⟩:∃T,Box (gV its ((tls xs).map eY) tl=T):=⟨_,⟨rfl⟩⟩
 have HB0:Box (zM pg.data.toList tl T (aC 0 its) (tls xs) 0 []):=⟨by rw[<-HT.o];exact Rw _ its tl hR (tls xs)⟩
 rw[HT.o]at hT ⊢
 have hnl:(aC 0 its).length=xs.length:=by rw[gT,hn]
 have hxl:xs.length<=100000000:=by have:=jZ none _ its tl hR;rw[ae]at this;omega
 have HG:=Box.m hG
 have HX:=Box.m hX
 have HXS:=Box.m hxs
 have HLK:=Box.m (yK pg w hG hl its tl hR)
 clear hG hX hxs hn hR HT
 go_enter func135,ntmps135
 go_wp2_with fail
 refine HLK.o.mono ?_
 rintro e w1 ⟨v,ls,rfl,hO,hls,hb1⟩
 have hll:xs.length=ls.length:=by rw[<-hnl,<-hls,Xu]
 rw[<-hls]at HB0
 obtain⟨AL,capL,hv,hcL⟩:=hO.len
 subst hv
 have HO:=Box.m hO
 have hq:((ls.length:Int) != (ls.length:Int))=false:=by simp
 have hq1:(ls.length:Int)=(ls.length:Int):=rfl
 clear hO hls hnl HLK
 rw[hll]at HX ⊢
 have HLL:=Box.m hll
 have hlsl:ls.length<=100000000:=by omega
 clear hll hxl
 go_wp2
 have HBd:Box (Lib.IsBuilderF 34 5 w1.heap.size w1.heap.size (Lib.byteCells []) (w1.alloc (.cells #[.pointer none,.slice none 0 0] 34))):=⟨Lib.IsBuilderF.of (.inl ⟨VQ _,_,bF w1 _,World.ownsRow_nil _ _ _ _,by simp[Value.ownBlock]⟩)⟩
 have hb2:Below w1.heap.size w1 (w1.alloc (.cells #[.pointer none,.slice none 0 0] 34)):=ag.alloc af _
 have hsw:=hb1.size
 clear hq
 go_loopg [8,21] ls.length (fun gf dv iv wx=>∃(k d:Nat) (O:aa),k<=ls.length/\dv=.int .i64 d/\iv=.int .i64 k/\Below w1.heap.size w1 wx/\Box (Lib.IsBuilderF 34 5 w1.heap.size w1.heap.size (Lib.byteCells O) wx)/\Box (zM pg.data.toList tl T ((ls.drop k).map lk2) ((tls xs).drop k) d O)/\ls.length - k<=gf)
 case atStart=>exact⟨0,0,[],Nat.zero_le _,rfl,rfl,hb2,HBd,HB0,by omega⟩
 case round=>
  clear HBd hb2 HB0
  obtain⟨k,d,O,hk,rfl,rfl,hbw,HB,HR,hgf⟩:=hrel
  have hsz:=hbw.size
  have hOl:=XH HR.o
  by_cases hlt:k<ls.length
  ·have hlx:k<xs.length:=by rw[HLL.o];exact hlt
   have HLT:=Box.m hlt
   obtain⟨x,hx⟩:∃x,xs[k]=x:=⟨_,rfl⟩
   have hxs:x.size<=100000000:=by rw[<-hx];exact HXS.o _ (List.getElem_mem hlx)
   obtain⟨bv,off,hA,hcv⟩:∃bv off,A=some ⟨bv,off,none⟩/\w.cell? ⟨bv,off+k,none⟩=some (.string x):=by
    obtain⟨A',cap',h1,_,h3⟩:=HX.o
    obtain⟨bv,off,h4,h5⟩:=h3 k hlx
    simp only[Value.slice.injEq]at h1
    exact⟨bv,off,h1.1.trans h4,by rw[<-hx];exact h5⟩
   have hbvl:=GL w _ hcv
   subst hA
   rcases HO.o.shape with⟨_,h0⟩|⟨g,cg,hg,hg1,hg2,_⟩
   ·rw[h0]at hlt;exact absurd hlt (by simp)
   ·simp only[Value.slice.injEq]at hg
    obtain⟨rfl,_,rfl⟩:=hg
    obtain⟨c0,c1,c2⟩:=(HO.o.below hbw af).cell k hlt
    obtain⟨⟨a,n,V⟩,hlk⟩:∃q,ls[k]=q:=⟨_,rfl⟩
    rw[hlk]at c0 c1 c2
    have HR1:Box (zM pg.data.toList tl T ((a,n,V.data.toList)::(ls.drop (k+1)).map lk2) (x.data.toList::(tls xs).drop (k+1)) d O):=⟨by
     have h:=HR.o
     rw[Jj lk2 ls k hlt,hlk]at h
     have e:(tls xs).drop k=x.data.toList::(tls xs).drop (k+1):=by
      unfold tls
      rw[<-ZZ,Jj _ xs k hlx,hx,ZZ]
     rw[e]at h
     exact h⟩
    clear HR hlk
    obtain⟨r1,r2,r3,r4⟩:=Vn HR1.o
    rw[ae]at r3
    obtain⟨a',rfl⟩:∃a',a=a'+1:=⟨a - 1,by omega⟩
    have ha':a'<pg.size:=by omega
    have HR2:=Box.m (r4 pg[a'] (by rw[Nat.add_sub_cancel];exact xU pg a' ha'))
    clear r4 HR1
    have k1:(0:Int)<=(d:Int):=by omega
    have k2:(d:Int)<=((a'+1:Nat):Int):=by omega
    have k3:((a'+1:Nat):Int)<=(pg.size:Int):=by omega
    have HO2:Box ((Lib.byteCells O).length<=1000000000):=⟨by simp only[Lib.byteCells,Xu];omega⟩
    go_wp2_with fail
    obtain⟨ob,hob⟩:∃ob,ob=Obj.cells #[Value.int IntKind.i64 ((a':Int)+1),Value.int IntKind.i64 (n:Int),Value.string V] 84:=⟨_,rfl⟩
    rw[<-hob]
    have hbA:Below wr.heap.size wr (wr.alloc ob):=ag.alloc af _
    have hnew:(wr.alloc ob).heap[wr.heap.size]?=some (.cells #[Value.int IntKind.i64 ((a':Int)+1),Value.int IntKind.i64 (n:Int),Value.string V] 84 (0,0)):=by rw[hob];exact bF wr _
    have HB2:=Box.m (lG HB.o hbA)
    have hsA:(wr.alloc ob).heap.size=wr.heap.size+1:=by simp
    refine(Tryz.Builder_WriteString w1.heap.size w1.heap.size _ (pg.extract d (a'+1)) _ HB2.o (by have:=HO2.o;rw[<-ae,aB,ZX,ZV,ae];omega) (by omega)).mono ?_
    rintro e w4 ⟨rfl,hA4,hb4,ho4⟩
    have hne:=Sw HB2.o hnew (by decide)
    have h4:=ll ho4 hnew hne (by decide)
    have p0:w4.cell? ⟨wr.heap.size,0,none⟩=some (.int .i64 ((a':Int)+1)):=by simp[World.cell?,h4]
    have p1:w4.cell? ⟨wr.heap.size,1,none⟩=some (.int .i64 (n:Int)):=by simp[World.cell?,h4]
    have hbw4:Below w1.heap.size w1 w4:=(hbw.trans (hbA.mono hsz)).trans hb4
    have hb04:Below w.heap.size w w4:=hb1.trans (hbw4.mono hsw)
    have p2:w4.cell? ⟨bv,off+k,none⟩=some (.string x):=(hb04.cell (p:=⟨bv,off+k,none⟩) hbvl).trans hcv
    have HW4:=Box.m ((HG.o.below hb04).gp.words)
    have HB4:Box (Lib.IsBuilderF 34 5 w1.heap.size w1.heap.size (Lib.byteCells (O++(pg.extract d (a'+1)).data.toList)) w4):=⟨by rw[<-oI];exact .inr hA4⟩
    have hs4:=hbw4.size
    have HK:Box (∀w',Below w4.heap.size w4 w'->(w'.cell? ⟨bv,off+k,none⟩=some (.string x)/\w'.cell? ⟨wr.heap.size,0,none⟩=some (.int .i64 ((a':Int)+1))/\w'.cell? ⟨wr.heap.size,1,none⟩=some (.int .i64 (n:Int))/\Below w1.heap.size w1 w')):=⟨fun w' hb'=>⟨(hb'.cell (p:=⟨bv,off+k,none⟩) (GL w4 _ p2)).trans p2,(hb'.cell (p:=⟨wr.heap.size,0,none⟩) (GL w4 _ p0)).trans p0,(hb'.cell (p:=⟨wr.heap.size,1,none⟩) (GL w4 _ p1)).trans p1,hbw4.trans (hb'.mono hs4)⟩⟩
    have HK2:Box (∀w5 w6,Below w4.heap.size w4 w5->Below w1.heap.size w5 w6->Lib.OthersKept 5 (some w1.heap.size) w5 w6->(w6.cell? ⟨bv,off+k,none⟩=some (.string x)/\w6.cell? ⟨wr.heap.size,0,none⟩=some (.int .i64 ((a':Int)+1))/\w6.cell? ⟨wr.heap.size,1,none⟩=some (.int .i64 (n:Int))/\Below w1.heap.size w1 w6)):=⟨fun w5 w6 h5 h6 ho=>by
     have e5:=(h5.block wr.heap.size (Array.getElem?_eq_some_iff.1 h4).1).trans h4
     have e6:=ll ho e5 hne (by decide)
     have hb16:Below w1.heap.size w1 w6:=(hbw4.trans (h5.mono hs4)).trans h6
     have hb06:Below w.heap.size w w6:=hb1.trans (hb16.mono hsw)
     exact⟨(hb06.cell (p:=⟨bv,off+k,none⟩) hbvl).trans hcv,by simp[World.cell?,e6],by simp[World.cell?,e6],hb16⟩⟩
    have HW5:Box (∀w',Below w4.heap.size w4 w'->kg w'):=⟨fun w' hb'=>HW4.o.below hb' HW4.o.lt⟩
    have HB5:Box (∀w',Below w4.heap.size w4 w'->Lib.IsBuilderF 34 5 w1.heap.size w1.heap.size (Lib.byteCells (O++(pg.extract d (a'+1)).data.toList)) w'):=⟨fun w' hb'=>lG HB4.o hb'⟩
    have HL5:Box ((Lib.byteCells (O++(pg.extract d (a'+1)).data.toList)).length<=2000000000):=⟨by
     simp only[Lib.byteCells,Xu,ZW]
     rw[aB,ZX,ZV,ae]
     omega⟩
    have hwr:IntKind.i64.wrap (a':Int)=(a':Int):=by simp[IntKind.wrap,IntKind.bits,IntKind.signed];omega
    have hwr2:IntKind.i64.wrap ((a':Int)+1 - 1)=(a':Int):=by rw[Int.add_sub_cancel];exact hwr
    have k5:(0:Int)<=(a':Int):=by omega
    have k6:(a':Int)<(pg.size:Int):=by omega
    have k7:(k:Int)<(ls.length:Int):=by omega
    have k8:(0:Int)<=(k:Int):=by omega
    clear hA4 hob HB4 HB2 HW4 h4 hnew ho4 hb4 c0 c1 c2 HB
    go_wp2_with fail
    go_region_held3 (fun w'=>w'.cell? ⟨bv,off+k,none⟩=some (.string x)/\w'.cell? ⟨wr.heap.size,0,none⟩=some (.int .i64 ((a':Int)+1))/\w'.cell? ⟨wr.heap.size,1,none⟩=some (.int .i64 (n:Int))/\Below w1.heap.size w1 w')
     ((go_split_ands;first|exact HK.o _ (ag.drew)|exact HK.o _ (ag.drew.trans hb5)|exact HK2.o _ _ (ag.drew.trans hb5) hb6 ho6))
     (first
      | (go_at_call 195;refine(Hz x pg[a'] _ (HW5.o _ ag.drew) hxs).mono ?_;rintro e w5 ⟨S5,rfl,hS5,hl5,hb5⟩)
      | (go_at_call 8;refine(Tryz.Builder_WriteString w1.heap.size w1.heap.size _ S5 _ (HB5.o _ (ag.drew.trans hb5)) (by have:=HL5.o;omega) (by have:=hb5.size;have:=hs4;simp at *;omega)).mono ?_;rintro e w6 ⟨rfl,hA6,hb6,ho6⟩))
    have hk6:=HK2.o _ _ (ag.drew.trans hb5) hb6 ho6
    obtain⟨_,q0,q1,hbw6⟩:=hk6
    have HB6:Box (Lib.IsBuilderF 34 5 w1.heap.size w1.heap.size (Lib.byteCells (O++(pg.data.toList.drop d).take (a'+1 - d)++wrS x.data.toList pg[a'])) w6):=⟨by
     rw[<-hS5,<-oI]
     rw[aB]at hA6
     exact .inr hA6⟩
    clear hA6 hS5 HK HK2 HW5 HB5 HL5
    go_wp2
    go_roundg (ls.length - (k+1))
    case measure=>have:=HLT.o;omega
    case rel=>exact⟨k+1,a'+1+n,_,HLT.o,by go_num,by go_num,hbw6,HB6,HR2,by have:=HLT.o;omega⟩
  ·have hkl:k=ls.length:=by omega
   have HE:Box (O++(pg.extract d pg.size).data.toList=T):=⟨by
    have h:=HR.o
    rw[hkl,List.drop_of_length_le af]at h
    rw[aB,List.take_of_length_le (by rw[ZV,ae];exact VQ _)]
    exact XK h⟩
   have hdl:d<=pg.size:=by
    obtain⟨_,_,_,_,_,_,h⟩:=HR.o.ex
    rw[ae]at h
    exact h
   have k1:(0:Int)<=(d:Int):=by omega
   have k2:(d:Int)<=(pg.size:Int):=by omega
   have HO2:Box ((Lib.byteCells O).length<=1000000000):=⟨by simp only[Lib.byteCells,Xu];omega⟩
   clear HR
   go_wp2_with fail
   refine(Tryz.Builder_WriteString w1.heap.size w1.heap.size _ (pg.extract d pg.size) _ HB.o (by have:=HO2.o;rw[<-ae,aB,ZX,ZV,ae];omega) hsz).mono ?_
   rintro e w4 ⟨rfl,hA4,hb4,ho4⟩
   have HB4:Box (Lib.IsBuilderF 34 5 w1.heap.size w1.heap.size (Lib.byteCells T) w4):=⟨by rw[<-HE.o,<-oI];exact .inr hA4⟩
   have hbw4:=hbw.trans hb4
   clear hA4 ho4 HE
   go_wp2_with fail
   refine(Tryz.Builder_String w1.heap.size w1.heap.size _ _ HB4.o hbw4.size).mono ?_
   rintro e w5 ⟨rfl,hA5,hb5,ho5⟩
   have hbw5:=hbw4.trans hb5
   clear hA5 ho5
   go_wp2
   go_ret2
   exact⟨_,rfl,rfl,hb1.trans (hbw5.mono hsw)⟩
theorem vF{P:Program}(w:World)(base:Nat)(t ty e:TypeId)(i:TypeInfo)(z:Value)(size bytes:Nat)(ht:P.underlying t=some (.slice e))(hi:P.info? e=some i)(hz:i.zero=some z)
  (hsize:i.size=size) (hby:i.bytes=bytes)
  (v:Value) (n:Nat) (xs:List Value) (hown:w.ownsRow base e size v n xs)
  (a:Addr) (m c:Nat) (news:List Value) (hl:news.length=m*size) (hnews:∀j u,news[j]?=some u->w.cell? (a.add j)=some u) (h1:∀u∈news,u.oneCell'=true) (hm:0<m)
  (h63:n+m<=maxLen) (hbytes:(n+m)*bytes<=140737488355328) (v':Value) (w':World) (hr:(Builtin.append_ #[t,t] ty #[v,.slice (some a) m c]).run P w=.ok v' w'):v'.ownBlock=v.ownBlock\/v'.ownBlock=some w.heap.size:=by
 subst hsize
 subst hby
 have hsmall:n+m<=9223372036854775807:=by simp only[maxLen]at h63;omega
 rcases hown.2 with⟨rfl,rfl⟩|⟨g,cap,cur,rfl,hbg,hg,hnc,hcm,hcs,htake⟩
 ·have h2:=run_append_nil (P:=P) w t ty e i z ht hi hz a m c news hl hnews (by omega) (by omega) (by have hb:=hbytes;simp only[Ws]at hb;omega)
  rw[h2]at hr
  injection hr with e1 e2
  rw[<-e1]
  exact .inr rfl
 ·by_cases hroom:n+m<=cap
  ·have hfit:n*i.size+news.length<=cur.size:=by rw[hl,hcs,<-Nat.add_mul];exact Nat.mul_le_mul_right _ hroom
   have h2:=run_append_room (P:=P) w t ty e i ht hi g n cap cur hg a m c news hl hnews h1 hroom hfit
   rw[h2]at hr
   injection hr with e1 e2
   rw[<-e1]
   exact .inl rfl
  ·have holds:∀j u,xs[j]?=some u->w.cell? ((⟨g,0,none⟩:Addr).add j)=some u:=hown.cells (g:=g) rfl
   have h2:=run_append_grow (P:=P) w t ty e i z ht hi hz ⟨g,0,none⟩ n cap xs hown.1 holds a m c news hl hnews (by omega) (by omega) (growslice_fits (by omega) hbytes)
   rw[h2]at hr
   injection hr with e1 e2
   rw[<-e1]
   exact .inr rfl
theorem uI{ops:Array Oper}{o:Oper}{a:Act}{K:Act->World->Prop}{Q:Exit->Act->World->Prop}{E:Prop}(W:World)(hgd:o.guard=none)(s x:Operand)(ho:o.op=.call { callee:=.builtin .append,args:=#[s,x],argTypes:=#[52,52] })
  (B:Nat) (v:Value) (L:List ByteArray) (hs:a.eval s=v) (hown:aV W B v L) (b c:Nat) (t:ByteArray) (hx:a.eval x=.slice (some ⟨b,0,none⟩) 1 c) (h0:W.cell? ⟨b,0,none⟩=some (.string t)) (hl:L.length+1<=1000000000) (hB:B<=W.heap.size)
  (h:∀v' w',aV w' B v' (L++[t])->W.grownBy w' v.ownBlock->(v'.ownBlock=v.ownBlock\/v'.ownBlock=some W.heap.size)->K (a.put o.dst v') w'):if Region.wanted o (yielded ops a.tmps)=true then Oper.wp prog o a W K Q else E:=by
 have hw:Region.wanted o (yielded ops a.tmps)=true:=by simp[Region.wanted,hgd]
 rw[if_pos hw]
 obtain⟨i0,hi,hz0,hz1,hz2⟩:=info_parts Tryz.infoStr
 have hne:∀j u,[Value.string t][j]?=some u->W.cell? ((⟨b,0,none⟩:Addr).add j)=some u:=by
  intro j u hj
  have hjl:j<1:=(List.getElem?_eq_some_iff.1 hj).1
  rw[Addr.add_lit,Ws]
  match j,hjl,hj with
  | 0,_,hj=>rw[h0];exact hj
 have hone:∀u∈[Value.string t],u.oneCell'=true:=by
  intro u hu
  rw[List.mem_singleton.1 hu];rfl
 obtain⟨v',w',hr,k2,k3,_⟩:=run_append_own (P:=prog) W B 52 o.type 9 i0 (.string ⟨#[]⟩) 1 16 underlying52 hi hz0 hz1 hz2 rfl (by decide) v L.length (L.map Value.string) hown ⟨b,0,none⟩ 1 c [.string t] rfl hne hone (by unfold maxLen;omega) (by omega) hB
 have hblk:=vF W B 52 o.type 9 i0 (.string ⟨#[]⟩) 1 16 underlying52 hi hz0 hz1 hz2 v L.length (L.map Value.string) hown ⟨b,0,none⟩ 1 c [.string t] rfl hne hone (by decide) (by unfold maxLen;omega) (by omega) v' w' hr
 unfold Oper.wp execOp
 simp only[ho,resolve,invoke,builtin,Sem.run_bind,Sem.run_pure,Result.andThen_ok,List.map_toArray,ZY,List.map_nil,hs,hx,hr]
 refine h v' w' ?_ k3 hblk
 unfold aV
 rw[ZW,List.map_append]
 exact k2
end Go.Proofs.YtkldkhdigkpniaaGreatDoor
