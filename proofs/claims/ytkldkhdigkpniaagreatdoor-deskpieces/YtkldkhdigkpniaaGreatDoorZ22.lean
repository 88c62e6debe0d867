import Derived.Deep.Quiet
import Derived.Test.YtkldkhdigkpniaaGreatDoorZ21
import Derived.Laws.StructEq
set_option maxHeartbeats 1000000
set_option maxRecDepth 100000
open List renaming all_eq_true → GL, length_append → VQ, mem_range → Ws, length_cons → Xu
open Nat renaming zero_le → ZV, le_trans → ZW, lt_or_ge → ZX
open Array renaming getElem?_push → ZY, getElem?_eq_none → ZZ
namespace Go.Proofs.YtkldkhdigkpniaaGreatDoor
open Go.RowKit Go.Proofs.Tryz
section
variable {P:Program} {ops:Array Oper} {md:Region.Mode} {C:World->Prop} {n:Nat}
def IY(P:Program)(md:Region.Mode)(ops:Array Oper)(C:World->Prop)(n:Nat)(T:Array Bool->Act->Prop):Nat->Array Bool->Act->Prop
 | 0,listed,a=>(∀j∈Region.ready md ops listed,n<=j)/\T listed a
 | fuel+1,listed,a=>Region.ready md ops listed≠[]/\∀i∈Region.ready md ops listed,qOp P ops C i (IY P md ops C n T fuel (listed.setIfInBounds i true)) a
def Gu(md:Region.Mode)(ops:Array Oper)(n:Nat):Bool:=(List.range ops.size).all fun j=>decide (j<n)||(List.range n).all fun i=>match ops[j]? with
 | some o=>o.after.any fun e=>Region.binds md e&&e.on==i
 | none=>true
theorem Ij(h:Gu md ops n=true){j i:Nat}{o:Oper}(hj:n<=j)(ho:ops[j]?=some o)(hi:i<n):∃e∈o.after,Region.binds md e=true/\e.on=i:=by
 have h1:=GL.1 h j (Ws.2 (Array.getElem?_eq_some_iff.1 ho).1)
 rw[decide_eq_false (by omega),Bool.false_or]at h1
 have h2:=GL.1 h1 i (Ws.2 hi)
 simp only[ho]at h2
 obtain⟨e,he,hb⟩:=Array.any_eq_true'.1 h2
 simp only[Bool.and_eq_true,beq_iff_eq]at hb
 exact⟨e,he,hb.1,hb.2⟩
theorem FY{T:Array Bool->Act->Prop}{Q:Exit->Act->World->Prop}{f:Nat}(hT:∀listed a,T listed a->∀w,C w->wpAny P md ops Q f listed a w):
  ∀(fuel:Nat) (listed:Array Bool) (a:Act) (w:World),C w->IY P md ops C n T fuel listed a->wpAny P md ops Q (f+fuel) listed a w
 | 0,_,_,_,hw,h=>hT _ _ h.2 _ hw
 | fuel+1,_,_,_,hw,h=>⟨fun h0=>absurd h0 h.1,fun i hi=>wpOp_of_qOp hw (fun a' w' hw' h'=>FY hT fuel _ a' w' hw' h') (h.2 i hi)⟩
theorem KS{T:Array Bool->Act->Prop}(hws:Gu md ops n=true){i:Nat}{oi:Oper}{v:Value}(hin:i<n)(hi:ops[i]?=some oi)(hsel:∀(j:Nat) (o:Oper) cs b,ops[j]?=some o->o.op≠.select cs b):
  ∀(fuel:Nat) (listed:Array Bool) (a:Act),
   (∀j oj,ops[j]?=some oj->j≠i->listed.getD j true=false->(∀e∈oj.after,Region.binds md e=true->e.on≠i)->oi.apart ops oj=true) ->
   i∈Region.ready md ops listed->YieldsIn P ops C oi v a ->
   IY P md ops C n T fuel (listed.setIfInBounds i true) (a.put oi.dst v)->IY P md ops C n T (fuel+1) listed a:=by
 intro fuel
 induction fuel with
 | zero=>
  intro listed a _ hr hy H
  refine⟨fun h=>by(rw[h]at hr;cases hr),fun j hj=>?_⟩
  by_cases hji:j=i
  ·subst hji;exact hy.qOp hi H
  ·exfalso
   have hn:=H.1 j (ready_mono hj hji)
   obtain⟨_,oj,hoj,hall⟩:=mem_ready.1 hj
   obtain⟨e,he,hb,hon⟩:=Ij hws hn hoj hin
   have h1:=hall e he hb
   have h0:=(mem_ready.1 hr).1
   rw[hon]at h1
   rcases ZX i listed.size with h'|h'
   ·simp[h']at h0 h1;rw[h0]at h1;cases h1
   ·simp[ZZ h']at h1
 | succ fuel ih=>
  intro listed a hfree hr hy H
  refine⟨fun h=>by(rw[h]at hr;cases hr),fun j hj=>?_⟩
  by_cases hji:j=i
  ·subst hji;exact hy.qOp hi H
  ·have h1:=H.2 j (ready_mono hj hji)
   obtain⟨hjun,oj,hoj,hall⟩:=mem_ready.1 hj
   have hnot:∀e∈oj.after,Region.binds md e=true->e.on≠i:=by
    intro e he hb heq
    have h1:=hall e he hb
    have h0:=(mem_ready.1 hr).1
    rw[heq]at h1
    rcases ZX i listed.size with h'|h'
    ·simp[h']at h0 h1;rw[h0]at h1;cases h1
    ·simp[ZZ h']at h1
   have h2:=qOp_put hoj (hfree j oj hoj hji hjun hnot) (fun cs b=>hsel i oi cs b hi) (fun cs b=>hsel j oj cs b hoj) hy h1
   refine qOp_mono (fun a' h3=>ih (listed.setIfInBounds j true) a' ?_ (ready_mono hr (Ne.symm hji)) h3.1 ?_) h2
   ·intro k ok hk hki hun hno
    refine hfree k ok hk hki ?_ hno
    by_cases hjk:j=k
    ·subst hjk;exact hjun
    ·rw[getD_set_ne true hjk]at hun;exact hun
   ·rw[Array.setIfInBounds_comm _ _ hji]
    exact h3.2
def WY(md:Region.Mode)(ops:Array Oper)(n:Nat):Nat->Nat->Array Bool->Bool
 | 0,_,listed=>(Region.ready md ops listed).all fun j=>decide (n<=j)
 | fuel+1,k,listed=>decide (k<n)&&(Region.ready md ops listed).contains k&&Region.free md ops listed k&&WY md ops n fuel (k+1) (listed.setIfInBounds k true)
def Tu:Nat->Nat->Array Bool->Array Bool
 | 0,_,listed=>listed
 | fuel+1,k,listed=>Tu fuel (k+1) (listed.setIfInBounds k true)
theorem Fq{T:Act->Prop}(hws:Gu md ops n=true)(hs:Region.noSelect ops=true)(L:Array Bool):∀(l:List Oper) (k:Nat) (listed:Array Bool) (a:Act),(∀j,j<l.length->l[j]?=ops[k+j]?) ->
  WY md ops n l.length k listed=true->Tu l.length k listed=L->wpQuiet P ops C T l a->IY P md ops C n (fun s a=>s=L/\T a) l.length listed a
 | [],_,listed,_,_,hB,hL,h=>⟨fun j hj=>by simpa using GL.1 hB j hj,hL,h⟩
 | o::l,k,listed,a,hl,hB,hL,h=>by
  have h0:ops[k]?=some o:=by simpa using(hl 0 (by simp)).symm
  simp only[Xu,WY,Bool.and_eq_true,decide_eq_true_eq]at hB
  obtain⟨⟨⟨hk,hr⟩,hf⟩,hB'⟩:=hB
  have hst:qOp P ops C k (wpQuiet P ops C T l) a:=by unfold qOp;simp only[h0];exact h
  obtain⟨v,hy,hK⟩:=yieldsIn_of_qOp h0 hst
  refine KS hws hk h0 (Region.noSelect_spec hs) l.length listed a (Region.free_spec h0 hf) (by simpa using hr) hy (Fq hws hs L l (k+1) _ _ (fun j hj=>?_) hB' hL hK)
  have:=hl (j+1) (by simpa using hj)
  simpa[Nat.add_assoc,Nat.add_comm 1 j]using this
theorem Eg{id:Nat}{Q:Exit->Act->World->Prop}{a:Act}{w:World}(n f:Nat)(L:Array Bool)(hm:P.follows .mixedOrders=true)(hs:Region.noSelect ops=true)(hws:Gu .any ops n=true)(hn:ops.size=f+n)(hlen:(ops.toList.take n).length=n)
  (hB:WY .any ops n n 0 (Array.replicate ops.size false)=true) (hL:Tu n 0 (Array.replicate ops.size false)=L) (hC:C { w with drawn:=w.drawn+1 })
  (h:wpQuiet P ops C (fun a'=>∀w',C w'->wpAny P .any ops Q f L a' w') (ops.toList.take n) a):(Code.region id ops true).wp P Q a w:=by
 refine wp_region_any hm ?_
 have key:=Fq (T:=fun a'=>∀w',C w'->wpAny P .any ops Q f L a' w') hws hs L (ops.toList.take n) 0 (Array.replicate ops.size false) a (fun j hj=>?_) (by rw[hlen];exact hB) (by rw[hlen];exact hL) h
 ·rw[hlen]at key
  have:=FY (n:=n) (Q:=Q) (f:=f) (T:=fun s a=>s=L/\∀w',C w'->wpAny P .any ops Q f L a w') (fun s a hT w hw=>by rw[hT.1];exact hT.2 w hw) n _ a _ hC key
  rw[<-hn]at this
  exact this
 ·rw[hlen]at hj
  simp[hj]
theorem wy{Q:Exit->Act->World->Prop}{fuel:Nat}{listed:Array Bool}{a:Act}{w:World}(k:Nat)(o:Oper)(hr:Region.ready md ops listed=[k])(ho:ops[k]?=some o)(hgd:o.guard=none)
  (h:o.wp P a w (wpAny P md ops Q fuel (listed.setIfInBounds k true)) Q):wpAny P md ops Q (fuel+1) listed a w:=by
 refine wpAny_all hr (by simp) fun i hi=>?_
 rw[List.mem_singleton.1 hi]
 unfold wpOp
 simp only[ho]
 have hw:Region.wanted o (yielded ops a.tmps)=true:=by simp[Region.wanted,hgd]
 rw[if_pos hw]
 exact .inl h
theorem bR{Q:Act->Prop}{a:Act}{o:Oper}{rest:List Oper}(hw:Region.wanted o (yielded ops a.tmps)=true)(v:Value)(hv:∀w,C w->o.quietAt P a C w v)(h:wpQuiet P ops C Q rest (a.put o.dst v)):wpQuiet P ops C Q (o::rest) a:=by
 show if Region.wanted o (yielded ops a.tmps)=true then o.quiet P a C (wpQuiet P ops C Q rest) else wpQuiet P ops C Q rest (a.put o.dst undef)
 rw[if_pos hw]
 exact⟨v,hv,h⟩
theorem bO{o:Oper}{a:Act}{w:World}{v:Value}(h:(execOp a.eval o).run P w=.ok (.value v) w):o.quietAt P a C w v:=by
 unfold Oper.quietAt
 rw[h]
 exact⟨rfl,rfl⟩
theorem jk{o:Oper}{a:Act}{w:World}{v:Value}{f:FuncId}{args:Array Value}(h:(execOp a.eval o).run P w=.ok (.enter f args) w)(hc:Calls P f args w fun e w'=>e=.returned v/\C w'):o.quietAt P a C w v:=by
 unfold Oper.quietAt
 rw[h]
 exact⟨rfl,hc⟩
end
def kF(s:ByteArray):ByteArray:=⟨(ah s.data.toList).toArray⟩
theorem tT(s:ByteArray):(kF s).data.toList=ah s.data.toList:=by simp[kF]
theorem JE(s:ByteArray)(w:World)(hl:s.size<=1000000):Calls prog 83 #[.string s] w fun e w'=>e=.returned (.string (kF s))/\Below w.heap.size w w':=by
 refine(iB s w (by omega)).mono ?_
 rintro e w' ⟨t,rfl,ht,hb⟩
 exact⟨AY (aF (ht.trans (tT s).symm)),hb⟩
theorem xD(w:World)(A B:Obj):((w.alloc A).alloc B).heap[w.heap.size]?=some A/\((w.alloc A).alloc B).heap[w.heap.size+1]?=some B:=by
 refine⟨?_,?_⟩
 ·show(((w.heap.push A).push B))[w.heap.size]?=_
  rw[ZY,if_neg (by simp),ZY,if_pos rfl]
 ·show(((w.heap.push A).push B))[w.heap.size+1]?=_
  rw[ZY,if_pos (by simp)]
theorem QD(w:World)(A B:Obj):Below w.heap.size w ((w.alloc A).alloc B):=((Below.refl w.heap.size w).alloc af _).alloc (by simp) _
def InW(W w':World):Prop:=Below W.heap.size W w'
theorem InW.step{W w1 w2:World}(h:InW W w1)(hb:Below w1.heap.size w1 w2):InW W w2:=Below.trans h (hb.mono (Below.size h))
theorem InW.draw(W:World):InW W { W with drawn:=W.drawn+1 }:=(Below.refl W.heap.size W).drew
theorem InW.blk{W w':World}(h:InW W w'){b:Nat}{o:Obj}(hb:b<W.heap.size)(ho:W.heap[b]?=some o):w'.heap[b]?=some o:=(Below.block h b hb).trans ho
theorem L9(sc au pa qu fr:ByteArray)(hA hQ hF:Bool)(w:World)(s0:sc.size<=1000000)(s1:au.size<=1000000):
  Calls prog 78 #[ma sc hA au pa hQ qu hF fr] w fun e w'=>e=.returned (ma (kF sc) hA (kF au) pa hQ qu false ⟨#[]⟩)/\Below w.heap.size w w':=by
 go_enter func78,ntmps78
 go_wp2
 refine Eg (C:=InW ((w.alloc (ko sc hA au pa hQ qu hF fr)).alloc sW)) 7 3 #[true,true,true,true,true,true,true,false,false,false] (by kernel_rfl) (by kernel_rfl) (by kernel_rfl) rfl rfl (by kernel_rfl) (by kernel_rfl) (InW.draw _) ?_
 have HB:∀w',InW ((w.alloc (ko sc hA au pa hQ qu hF fr)).alloc sW) w'->Blk w' w.heap.size (.string sc) (.bool hA) (.string au) (.string pa) (.bool hQ) (.string qu) (.bool hF) (.string fr):=fun w' hw'=>dU (hw'.blk (by simp;omega) (xD w _ _).1)
 refine bR rfl (.pointer (some ⟨w.heap.size,0,none⟩)) (fun w' hw'=>bO (by go_simp)) ?_
 go_simp
 refine bR rfl (.string sc) (fun w' hw'=>bO (by have:=(HB w' hw').c0;go_simp)) ?_
 go_simp
 refine bR rfl (.string (kF sc)) (fun w' hw'=>jk (f:=83) (args:=#[.string sc]) (by go_simp) ((JE sc w' s0).mono (by rintro e w2 ⟨rfl,hb⟩;exact⟨rfl,hw'.step hb⟩))) ?_
 go_simp
 refine bR rfl (.pointer (some ⟨w.heap.size,2,none⟩)) (fun w' hw'=>bO (by go_simp)) ?_
 go_simp
 refine bR rfl (.string au) (fun w' hw'=>bO (by have:=(HB w' hw').c2;go_simp)) ?_
 go_simp
 refine bR rfl (.string (kF au)) (fun w' hw'=>jk (f:=83) (args:=#[.string au]) (by go_simp) ((JE au w' s1).mono (by rintro e w2 ⟨rfl,hb⟩;exact⟨rfl,hw'.step hb⟩))) ?_
 go_simp
 refine bR rfl (.pointer (some ⟨w.heap.size,0,none⟩)) (fun w' hw'=>bO (by go_simp)) ?_
 go_simp
 refine wpQuiet_nil ?_
 intro w1 hw1
 obtain⟨x0,x1,x2,x3,x4,x5,x6,x7,xf⟩:=HB w1 hw1
 obtain⟨y0,y1,y2,y3,y4,y5,y6,y7,yf⟩:=dU (hw1.blk (by simp) (xD w _ _).2)
 have b1:=(QD w (ko sc hA au pa hQ qu hF fr) sW).trans (Below.mono hw1 (by simp;omega))
 clear hw1 HB
 refine wy 7 _ (by kernel_rfl) rfl rfl ?_
 unfold Oper.wp
 go_simp
 refine wy 8 _ (by kernel_rfl) rfl rfl ?_
 unfold Oper.wp
 go_simp
 refine wy 9 _ (by kernel_rfl) rfl rfl ?_
 unfold Oper.wp
 go_simp
 refine wpAny_done (by kernel_rfl) ?_ 0
 go_wp2
 refine bodyPost_ret (v:=ma (kF sc) hA (kF au) pa hQ qu false ⟨#[]⟩) (by simp[results,results78,go_sem,y0,y1,y2,y3,y4,y5,y6,y7]) rfl ⟨rfl,?_⟩
 iterate 12 (refine Below.setCell ?_ (by simp<;>omega) _)
 exact b1
def iG(a:AV):ByteArray:=⟨(bQ a.ab).toArray⟩
theorem oM(a:AV):(iG a).data.toList=bQ a.ab:=by simp[iG]
theorem Em(a:AB):(bQ a).length<=a.sch.length+a.auth.length+a.path.length+a.query.length+a.frag.length+5:=by
 unfold bQ
 simp only[VQ]
 split<;>split<;>split<;>split<;>simp only[VQ,Xu,List.length_nil]<;>omega
theorem j3(a:AV)(n:Nat)(h:a.Small n):(iG a).size<=5*n+5:=by
 have h1:=Em a.ab
 have e:∀b:ByteArray,b.data.toList.length=b.size:=ae
 rw[<-ae,oM]
 simp only[AV.ab,e]at h1
 obtain⟨h2,h3,h4,h5,h6⟩:=h
 simp only[AV.ab]
 omega
theorem rC(a:AV)(w:World)(h:a.Small 1000000):Calls prog 42 #[a.val] w fun e w'=>e=.returned (.string (iG a))/\Below w.heap.size w w':=by
 refine(KY a.sc a.au a.pa a.qu a.fr a.hA a.hQ a.hF w h.sc h.au h.pa h.qu h.fr).mono ?_
 rintro e w' ⟨S,rfl,hS,hb⟩
 exact⟨AY (aF (hS.trans (oM a).symm)),hb⟩
def rF(a:AV):AV:=⟨kF a.sc,a.hA,kF a.au,a.pa,a.hQ,a.qu,false,⟨#[]⟩⟩
theorem Fj(a:AV):(rF a).ab=sU a.ab:=by simp[rF,AV.ab,sU,tT]
theorem Dm(a:AV)(w:World)(h:a.Small 1000000):Calls prog 78 #[a.val] w fun e w'=>e=.returned (rF a).val/\Below w.heap.size w w':=
 L9 a.sc a.au a.pa a.qu a.fr a.hA a.hQ a.hF w h.sc h.au
theorem Af(s:ByteArray):(kF s).size=s.size:=by rw[<-ae,tT,ah,List.length_map,ae]
theorem G7{a:AV}{n:Nat}(h:a.Small n):(rF a).Small n:=⟨by show(kF a.sc).size<=n;rw[Af];exact h.sc,by show(kF a.au).size<=n;rw[Af];exact h.au,h.pa,h.qu,ZV _⟩
def qw(b a:AV):AV:=AV.of (jv b.ab a.ab)
theorem qW(b a:AV):(qw b a).ab=jv b.ab a.ab:=nS _
theorem xP{b a v:AV}(h:v.ab=jv b.ab a.ab):v=qw b a:=BX (h.trans (qW b a).symm)
theorem nV{b a:AV}{n:Nat}(hb:b.Small n)(ha:a.Small n):(qw b a).Small (2*n+1):=by
 have e:∀x:ByteArray,x.data.toList.length=x.size:=ae
 have key:∀x:AV,x.ab=jv b.ab a.ab->x.Small (2*n+1):=by
  intro x hx
  obtain⟨b0,b1,b2,b3,b4⟩:=hb
  obtain⟨a0,a1,a2,a3,a4⟩:=ha
  have hd:∀p:aa,p.length<=2*n+1->(lS p).length<=2*n+1:=fun p hp=>ZW (mG p) hp
  have hdir:(GX b.ab).length<=n+1:=by
   unfold GX
   split
   ·simp
   ·have:(xV b.ab.path).length<=b.ab.path.length:=by
     unfold xV
     rw[List.length_reverse]
     exact ZW (List.dropWhile_suffix _).length_le (by simp)
    have hp:b.ab.path.length=b.pa.size:=e _
    omega
  have l0:a.ab.sch.length=a.sc.size:=e _
  have l1:a.ab.auth.length=a.au.size:=e _
  have l2:a.ab.path.length=a.pa.size:=e _
  have l3:a.ab.query.length=a.qu.size:=e _
  have l4:a.ab.frag.length=a.fr.size:=e _
  have m0:b.ab.sch.length=b.sc.size:=e _
  have m1:b.ab.auth.length=b.au.size:=e _
  have m2:b.ab.path.length=b.pa.size:=e _
  have m3:b.ab.query.length=b.qu.size:=e _
  have hk:(jv b.ab a.ab).sch.length<=2*n+1/\(jv b.ab a.ab).auth.length<=2*n+1/\(jv b.ab a.ab).path.length<=2*n+1/\(jv b.ab a.ab).query.length<=2*n+1/\(jv b.ab a.ab).frag.length<=2*n+1:=by
   unfold jv
   split
   ·refine⟨?_,by simp only;omega,hd _ (by omega),by simp only;omega,by simp only;omega⟩
    simp only
    split<;>omega
   ·split
    ·split
     ·exact⟨by simp only;omega,by simp only;omega,by simp only;omega,by simp only;omega,by simp only;omega⟩
     ·exact⟨by simp only;omega,by simp only;omega,by simp only;omega,by simp only;omega,by simp only;omega⟩
    ·refine⟨by simp only;omega,by simp only;omega,hd _ ?_,by simp only;omega,by simp only;omega⟩
     split
     ·omega
     ·rw[VQ];omega
  rw[<-hx]at hk
  obtain⟨k0,k1,k2,k3,k4⟩:=hk
  exact⟨by rw[<-e];exact k0,by rw[<-e];exact k1,by rw[<-e];exact k2,by rw[<-e];exact k3,by rw[<-e];exact k4⟩
 exact key _ (qW b a)
theorem xA(s:ByteArray):s.data.toList=[]↔s.size=0:=⟨fun h=>by rw[<-ae,h];rfl,fZ s⟩
theorem Bo(b a:AV)(w:World)(hb:b.pa.size<=400000)(ha:a.pa.size<=400000)(hm:Max w):Calls prog 58 #[b.val,a.val] w fun e w'=>e=.returned (qw b a).val/\Below w.heap.size w w':=by
 obtain⟨sc0,hA0,au0,pa0,hQ0,qu0,hF0,fr0⟩:=b
 obtain⟨sc,hA,au,pa,hQ,qu,hF,fr⟩:=a
 by_cases h0:sc.size=0
 ·have n0:=(xA sc).2 h0
  cases hA
  ·by_cases h1:pa.size=0
   ·have n1:=(xA pa).2 h1
    cases hQ
    ·refine(QE sc0 au0 pa0 qu0 fr0 sc au pa qu fr hA0 hQ0 hF0 hF w h0 h1).mono ?_
     rintro e w' ⟨rfl,hbw⟩
     refine⟨?_,hbw⟩
     rw[<-xP (v:=⟨sc0,hA0,au0,pa0,hQ0,qu0,hF,fr⟩) (by simp[jv,AV.ab,n0,n1])]
    ·refine(Lm sc0 au0 pa0 qu0 fr0 sc au pa qu fr hA0 hQ0 hF0 hF w h0 h1).mono ?_
     rintro e w' ⟨rfl,hbw⟩
     refine⟨?_,hbw⟩
     rw[<-xP (v:=⟨sc0,hA0,au0,pa0,true,qu,hF,fr⟩) (by simp[jv,AV.ab,n0,n1])]
   ·have n1:¬pa.data.toList=[]:=fun h=>h1 ((xA pa).1 h)
    refine(Qn sc0 au0 pa0 qu0 fr0 sc au pa qu fr hA0 hQ0 hF0 hQ hF w hb ha hm h0 h1).mono ?_
    rintro e w' ⟨⟨S,rfl,hS⟩,hbw⟩
    refine⟨?_,hbw⟩
    rw[<-xP (v:=⟨sc0,hA0,au0,S,hQ,qu,hF,fr⟩) (by simp[jv,AV.ab,n0,n1,hS,rH])]
  ·refine(Qo sc0 au0 pa0 qu0 fr0 sc au pa qu fr hA0 hQ0 hF0 hQ hF w (ZW ha (by omega)) hm h0).mono ?_
   rintro e w' ⟨⟨S,rfl,hS⟩,hbw⟩
   refine⟨?_,hbw⟩
   rw[<-xP (v:=⟨sc0,true,au,S,hQ,qu,hF,fr⟩) (by simp[jv,AV.ab,n0,hS])]
 ·have n0:¬sc.data.toList=[]:=fun h=>h0 ((xA sc).1 h)
  refine(IC sc0 au0 pa0 qu0 fr0 sc au pa qu fr hA0 hQ0 hF0 hA hQ hF w (ZW ha (by omega)) hm h0).mono ?_
  rintro e w' ⟨⟨S,rfl,hS⟩,hbw⟩
  refine⟨?_,hbw⟩
  rw[<-xP (v:=⟨sc,hA,au,S,hQ,qu,hF,fr⟩) (by simp[jv,AV.ab,n0,hS])]
def rJ(l:aa):AV:=match bM l with|some a=>AV.of a|none=>Ba
def MW(l:aa):Value:=match bM l with|some _=>.nilIface|none=>.iface 25 (.int .i64 3)
theorem wF{l:aa}{v:AV}(h:bM l=some v.ab):rJ l=v/\MW l=.nilIface:=by
 unfold rJ MW
 rw[h]
 exact⟨ZB v,rfl⟩
theorem vT{l:aa}(h:bM l=none):rJ l=Ba/\MW l=.iface 25 (.int .i64 3):=by
 unfold rJ MW
 rw[h]
 exact⟨rfl,rfl⟩
theorem xe(s:ByteArray)(w:World)(hs:s.size<=1000000)(hm:Max w):Calls prog 82 #[.string s] w fun e w'=>e=.returned (.tuple #[(rJ s.data.toList).val,MW s.data.toList])/\(rJ s.data.toList).Small s.size/\Below w.heap.size w w':=by
 refine(QV s w hs hm).mono ?_
 rintro e w' ⟨⟨h,rfl⟩|⟨v,h,hz,rfl⟩,hb⟩
 ·obtain⟨h1,h2⟩:=vT h
  rw[h1,h2]
  exact⟨rfl,lK (ZV _) (ZV _) (ZV _) (ZV _) (ZV _),hb⟩
 ·obtain⟨h1,h2⟩:=wF h
  rw[h1,h2]
  exact⟨rfl,hz,hb⟩
theorem Og(a b:AV)(q:Bool)(hq:q=true↔a=b)(w:World):(Op.equalIn 10000 60 a.val b.val).run prog w=.ok q w:=by
 have e:∀x y:ByteArray,x.toList=y.toList->x=y:=fun x y h=>aF (by rw[<-ByteArray.toList_eq,<-ByteArray.toList_eq];exact h)
 have hx:q=decide (a.sc.toList=b.sc.toList/\a.hA=b.hA/\a.au.toList=b.au.toList/\a.pa.toList=b.pa.toList/\a.hQ=b.hQ/\a.qu.toList=b.qu.toList/\a.hF=b.hF/\a.fr.toList=b.fr.toList):=by
  rw[Bool.eq_iff_iff,hq,decide_eq_true_eq]
  constructor
  ·rintro rfl
   exact⟨rfl,rfl,rfl,rfl,rfl,rfl,rfl,rfl⟩
  ·rintro⟨h0,h1,h2,h3,h4,h5,h6,h7⟩
   obtain⟨a0,a1,a2,a3,a4,a5,a6,a7⟩:=a
   obtain⟨b0,b1,b2,b3,b4,b5,b6,b7⟩:=b
   rw[e a0 b0 h0,e a2 b2 h2,e a3 b3 h3,e a5 b5 h5,e a7 b7 h7]
   simp only at h1 h4 h6
   rw[h1,h4,h6]
 subst hx
 simp[go_sem]
 by_cases h0:a.sc.toList=b.sc.toList
 ·by_cases h1:a.hA=b.hA
  ·by_cases h2:a.au.toList=b.au.toList
   ·by_cases h3:a.pa.toList=b.pa.toList
    ·by_cases h4:a.hQ=b.hQ
     ·by_cases h5:a.qu.toList=b.qu.toList
      ·by_cases h6:a.hF=b.hF
       ·by_cases h7:a.fr.toList=b.fr.toList
        ·simp[h0,h1,h2,h3,h4,h5,h6,h7]
        ·simp[h0,h1,h2,h3,h4,h5,h6,h7]
       ·simp[h0,h1,h2,h3,h4,h5,h6]
      ·simp[h0,h1,h2,h3,h4,h5]
     ·simp[h0,h1,h2,h3,h4]
    ·simp[h0,h1,h2,h3]
   ·simp[h0,h1,h2]
  ·simp[h0,h1]
 ·simp[h0]
end Go.Proofs.YtkldkhdigkpniaaGreatDoor
