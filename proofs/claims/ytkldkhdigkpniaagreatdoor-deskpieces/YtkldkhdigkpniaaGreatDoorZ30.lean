import Derived.Test.YtkldkhdigkpniaaGreatDoorZ29
import Derived.Test.YtkldkhdigkpniaaGreatDoorZF5
set_option maxHeartbeats 2000000
set_option maxRecDepth 100000
open List renaming filter_cons → GL, map_append → VQ, flatten_append → Ws, length_append → Xu, mem_of_find?_eq_some → ZV
namespace Go.Proofs.YtkldkhdigkpniaaGreatDoor
open Go.RowKit Go.Proofs.Tryz
structure Tab(w:World):Prop where
 t : Lib.TabIs prog w "internal/strconv.uint64pow10" .u64 Lib.pow10Tab
 lt:1<w.heap.size
theorem Yh : prog.globalNamed "internal/strconv.uint64pow10" = some 1 := by kernel_rfl
theorem Tab.below{w w':World}{B:Nat}(h:Tab w)(hb:Below B w w')(hB:1<B):Tab w':=by
 obtain⟨t,lt⟩:=h
 refine⟨?_,Nat.lt_of_lt_of_le lt hb.size⟩
 unfold Lib.TabIs World.var? at t ⊢
 rw[Yh]at t ⊢
 simp only[Option.bind_some]at t ⊢
 rw[hb.block _ hB]
 exact t
theorem vQ(w:World)(k:Nat)(os:Array Obj):Below w.heap.size w (Go.Sort.grow (w.drewN k) os):=by
 refine(lQ w k).trans ⟨rfl,rfl,rfl,by simp[Go.Sort.grow],fun i hi=>?_⟩
 show((w.drewN k).heap++os)[i]?=_
 rw[Array.getElem?_append_left]
 exact Nat.lt_of_lt_of_le hi (lQ w k).size
theorem Kb{w:World}{b:Nat}{v:Value}{t:TypeId}(h:w.heap[b]?=some (.cells #[v] t (0,0))):w.cell? ⟨b,0,none⟩=some v:=by simp[World.cell?,h]
theorem TG(n:Nat):Lib.itoa (n:Int)=Lib.decDigits n:=by
 unfold Lib.itoa
 rw[if_neg (by omega)]
 rfl
theorem lF(n:Nat)(w:World)(hn:n<=1000000000)(ht:Tab w):
  Calls prog 11 #[.int .i64 n] w fun e w'=>e=.returned (.string ⟨(Lib.decDigits n).toArray⟩)/\Below w.heap.size w w':=by
 refine(Tryz.strconv_Itoa n (by omega) (by omega) w ht.t).mono ?_
 rintro e w' ⟨rfl,k,os,rfl⟩
 rw[TG]
 exact⟨rfl,vQ w k os⟩
def Al(ss:List ByteArray):Nat:=(ss.map lst).flatten.length
theorem TC(ss:List ByteArray)(k:Nat)(x:ByteArray)(h:ss[k]?=some x):Al (ss.take (k+1))=Al (ss.take k)+x.size:=by
 unfold Al
 rw[List.take_add_one,h,VQ,Ws,Xu]
 simp[lst]
theorem Yu(ss:List ByteArray)(k:Nat):Al (ss.take k)<=Al ss:=by
 unfold Al
 conv=>rhs;rw[<-List.take_append_drop k ss,VQ,Ws,Xu]
 omega
def jJ(xs:List (aa)):aa:=if 20000<xs.flatten.length then Ao 0 else P6 xs
theorem Gz(xs:List (aa))(h:xs.flatten.length<=20000):o5 xs<=1000000:=by
 obtain⟨n,hn,hs⟩:=Ze xs 4 (by omega)
 have:=yZ xs n hs
 omega
theorem RO(v:Value)(ss:List ByteArray)(B:Nat)(w:World)(hO:aV w B v ss)(hn:ss.length<=1000000)(hx:∀x∈ss,x.size<=1000000000)(hs:Al ss<=1000000000)(hm:Max w)(ht:Tab w):
  Calls prog 239 #[v] w fun e w'=>∃E:ByteArray,e=.returned (.string E)/\E.data.toList=jJ (ss.map lst)/\Below w.heap.size w w':=by
 obtain⟨A,n,cap,hv⟩:=hO.slice
 have HO0:=Box.m hO
 subst hv
 have hnl:=hO.len
 have hn1:n<=ss.length:=Nat.le_of_eq hnl
 have hn2:ss.length<=n:=Nat.le_of_eq hnl.symm
 have HX:=Box.m hx
 have HM:=Box.m hm
 have HT:=Box.m ht
 have HS:=Box.m hs
 clear hO hnl hx hm ht hs
 go_enter func239,ntmps239
 go_wp2
 go_loopw [3,11] (fun z i wr=>∃k c:Nat,k<=n/\z=.int .i64 c/\i=.int .i64 k/\c<=1000000000/\Box (c=Al (ss.take k))/\Below w.heap.size w wr) (fun _ i _=>n - (intOf i).toNat)
 case atStart=>exact⟨0,0,Nat.zero_le _,rfl,rfl,by omega,⟨by simp[Al]⟩,Below.refl _ _⟩
 case round=>
  obtain⟨k,c,hk,rfl,rfl,hc9,HC,hb⟩:=hrel
  by_cases hlt:k<n
  ·have hkl:k<ss.length:=by omega
   obtain⟨x,HXk⟩:∃x,Box (ss[k]?=some x):=⟨_,⟨List.getElem?_eq_getElem hkl⟩⟩
   obtain⟨g,hA,hg,hcell⟩:=HO0.o.at hb k x HXk.o
   subst hA
   have hxs:=HX.o x (List.mem_of_getElem? HXk.o)
   have HC':Box (c+x.size=Al (ss.take (k+1))):=⟨by rw[TC ss k x HXk.o,HC.o]⟩
   have hle:c+x.size<=1000000000:=by
    have h1:=Yu ss (k+1)
    have h2:=HS.o
    have h3:=HC'.o
    omega
   clear HXk hkl HC HX HO0
   go_wp2
   go_roundw
   case rel=>exact⟨k+1,c+x.size,by omega,by go_num,by go_num,hle,HC',hb⟩
   case measure=>simp[intOf];omega
  ·have HC':Box (c=((ss.map lst).flatten.length)):=⟨by
    have:=HC.o
    rw[List.take_of_length_le (by omega)]at this
    exact this⟩
   clear HC
   go_wp2
   generalize wr=wo at hb ⊢
   obtain⟨F,HF⟩:∃F,Box (F=o5 (ss.map lst)):=⟨_,⟨rfl⟩⟩
   have hF:c<=20000->F<=1000000:=fun h=>by rw[HF.o];exact Gz _ (by rw[<-HC'.o];exact h)
   go_loopw [6] (fun i wr=>∃k:Nat,i=.int .i64 k/\k<=F/\k<=1000000/\(20000<c->k=0)/\Below w.heap.size w wr) (fun i _=>F+1 - (intOf i).toNat)
   case atStart=>exact⟨0,rfl,Nat.zero_le _,by omega,fun _=>rfl,hb⟩
   case round=>
    obtain⟨k,rfl,hkF,hk6,hk0,hbr⟩:=hrel
    have hK0:=Box.m hk0
    have HTr:=Box.m (HT.o.below hbr HT.o.lt)
    clear hk0
    go_wp2_with fail
    refine(lF k _ (by omega) HTr.o).mono ?_
    rintro e w2 ⟨rfl,hb2⟩
    have hdl:(Lib.decDigits k).length<=10:=by
     rw[Lib.decDigits_length]
     exact fI 9 k (by omega)
    obtain⟨D,HD⟩:∃D:ByteArray,Box (D=⟨(Lib.decDigits k).toArray⟩):=⟨_,⟨rfl⟩⟩
    rw[<-HD.o]
    have hds:D.size<=10:=by rw[HD.o,gm];exact hdl
    obtain⟨E,HE⟩:∃E:ByteArray,Box (E=⟨#[98]⟩++D):=⟨_,⟨rfl⟩⟩
    have HEl:Box (E.data.toList=Ao k):=⟨by rw[HE.o,HD.o];simp[Ao]⟩
    have hes:E.size<=100000:=by rw[HE.o,ByteArray.size_append];show 1+D.size<=_;omega
    have hsum:¬9223372036854775807<1+D.size:=by omega
    have hb02:=hbr.trans (hb2.mono hbr.size)
    have hba:=aD w2 (.cells #[.string E] 9)
    have hb03:=hb02.trans (hba.mono hb02.size)
    have hE0:(w2.alloc (.cells #[.string E] 9)).cell? ⟨w2.heap.size,0,none⟩=some (.string E):=Kb (bG w2 (.cells #[.string E] 9))
    by_cases hc2:20000<c
    ·have hk00:=hK0.o hc2
     have HU:Box (jJ (ss.map lst)=Ao k):=⟨by rw[jJ,if_pos (by rw[<-HC'.o];exact hc2),hk00]⟩
     clear HD HX HM HT HTr hF HF HO0 hE0 hK0 hk00
     go_wp2
     rw[<-HE.o]
     go_ret
     exact⟨E,rfl,by rw[HU.o];exact HEl.o,hb03⟩
    ·have HOw:=Box.m ((HO0.o.below hb03 af))
     have HMw:=Box.m (HM.o.below hb03 HM.o.1)
     have HCt:=Box.m (wT (.slice A n cap) ss E w2.heap.size B _ HOw.o hn HX.o hes hE0 HMw.o)
     have hst:((ss.map lst).any fun x=>Lib.contains x (gU E.data.toList))=gz (ss.map lst) k:=by rw[HEl.o];rfl
     rw[hst]at HCt
     clear hst
     cases hq:gz (ss.map lst) k
     ·have HU:Box (jJ (ss.map lst)=Ao k):=⟨by
       have h1:=yZ _ _ hq
       have:k=o5 (ss.map lst):=by rw[HF.o]at hkF;omega
       rw[jJ,if_neg (by rw[<-HC'.o];exact hc2),P6,<-this]⟩
      rw[hq]at HCt
      clear HD HX HM HT HTr hF HF HO0 hK0 hq HOw HMw
      go_wp2_with fail
      rw[<-HE.o]
      refine HCt.o.mono ?_
      rintro e w4 ⟨rfl,hb4⟩
      have hE4:=(hb4.cell (p:=⟨w2.heap.size,0,none⟩) (by simp)).trans hE0
      go_wp2
      go_ret
      exact⟨E,rfl,by rw[HU.o];exact HEl.o,hb03.trans (hb4.mono hb03.size)⟩
     ·have hkF':k+1<=F:=by
       have h1:k≠F:=fun e=>by
        have:=(sG (ss.map lst)).1
        rw[<-HF.o,<-e,hq]at this
        cases this
       omega
      have hF6:=hF (by omega)
      rw[hq]at HCt
      clear HD HX HM HT HTr hF HF HO0 hq HOw HMw
      go_wp2_with fail
      rw[<-HE.o]
      refine HCt.o.mono ?_
      rintro e w4 ⟨rfl,hb4⟩
      go_wp2
      go_roundw
      case rel=>exact⟨k+1,by go_num,hkF',by omega,fun h=>absurd h hc2,hb03.trans (hb4.mono hb03.size)⟩
      case measure=>simp[intOf];omega
theorem J9:∀(lh:List Fl) (f:Fl),lh.find? ji=some f->aM (fun f=>!ji f) (lh.filter fun f=>!bL f)<(lh.filter fun f=>!bL f).length/\(lh.filter fun f=>!bL f)[aM (fun f=>!ji f) (lh.filter fun f=>!bL f)]?=some f
 | [],f,h=>by cases h
 | a::lh,f,h=>by
  rw[List.find?_cons]at h
  cases hc:ji a with
  | true=>
   rw[hc]at h
   obtain rfl:=Option.some.inj h
   have he:bL a=false:=by
    unfold ji at hc
    unfold bL
    rw[decide_eq_false_iff_not,of_decide_eq_true hc]
    exact XU
   rw[GL,he]
   simp[aM,hc]
  | false=>
   rw[hc]at h
   obtain⟨h1,h2⟩:=J9 lh f h
   rw[GL]
   cases he:bL a with
   | true=>simpa using⟨h1,h2⟩
   | false=>
    have hs:aM (fun f=>!ji f) (a::lh.filter fun f=>!bL f)=aM (fun f=>!ji f) (lh.filter fun f=>!bL f)+1:=by
     simp[aM,hc]
    simp only[Bool.not_false,if_true]
    rw[hs]
    exact⟨by simpa using h1,by simpa using h2⟩
theorem Ps(lh:List Fl)(b:aa)(h:aS (lh.map fl2)=.ok (some b)):∃f q,aM (fun f=>!ji f) (lh.filter fun f=>!bL f)<(lh.filter fun f=>!bL f).length/\(lh.filter fun f=>!bL f)[aM (fun f=>!ji f) (lh.filter fun f=>!bL f)]?=some f/\f∈lh/\eO f.2.data.toList=some q/\∃p∈q.2,p.1=bdN:=by
 have hg:=uL lh ctN
 rw[show ah ctN=ctN by decide]at hg
 unfold aS at h
 rw[hg]at h
 cases hs:xu lh ctN with
 | none=>rw[hs]at h;cases h
 | some f=>
  rw[hs]at h
  simp only[Option.map_some]at h
  have hf:lh.find? ji=some f:=by
   rw[<-hs]
   unfold xu ji
   rw[show ah ctN=ctN by decide]
  obtain⟨h1,h2⟩:=J9 lh f hf
  cases hk:eO f.2.data.toList with
  | none=>rw[show(fl2 f).2=f.2.data.toList from rfl,hk]at h;cases h
  | some q=>
   rw[show(fl2 f).2=f.2.data.toList from rfl,hk]at h
   simp only at h
   refine⟨f,q,h1,h2,ZV hf,hk,?_⟩
   split at h
   ·split at h
    ·rename_i hc
     have hl:=hc.1
     unfold nU at hl
     cases hq:q.2.find? (fun p=>decide (p.1=bdN))with
     | none=>rw[hq]at hl;simp at hl
     | some p=>exact⟨p,ZV hq,by simpa using List.find?_some hq⟩
    ·cases h
   ·cases h
def iF(bn:List (aa)->aa):Nat->Nat->PT->Except Nat (aa×Nat)
 | 0,_,_=>.error 4
 | d+1,n,.mk L b many ps=>if 40<=n then .error 4 else if xg L b many ps.length=false then .error 1 else if many then
   match dA (iF bn d) ps (n+1)with
   | .error e=>.error e
   | .ok r=>.ok (nH (iQ (bn r.1) L)++gK (bn r.1) r.1,r.2)
  else .ok (nH (gI L++[(uZ,(nT b).1)])++(nT b).2,n+1)
abbrev dY:=iF jJ
def hsz(L:List PB):Nat:=(L.map fun f=>f.1.length+f.2.length+2).sum
theorem fB(f:PB)(L:List PB):hsz (f::L)=f.1.length+f.2.length+2+hsz L:=by simp[hsz]
theorem GI(L M:List PB):hsz (L++M)=hsz L+hsz M:=by simp[hsz]
theorem rG(p:PB->Bool)(L:List PB):hsz (L.filter p)<=hsz L:=by
 induction L with
 | nil=>exact Nat.le_refl _
 | cons f L ih=>
  rw[GL]
  split
  ·rw[fB,fB];omega
  ·rw[fB];omega
def SmT:Nat->PT->Prop
 | 0,_=>False
 | D+1,.mk L b _ ps=>(L.length<=3000/\(∀f∈L,f.1.length<=8000/\f.2.length<=8000)/\hsz L<=30000)/\b.length<=100000/\ps.length<=60/\∀p∈ps,SmT D p
theorem Fb(M:List Fl):nH (M.map fl2)=bW M++[13,10]:=by
 unfold nH
 rw[List.map_map]
 have:(toF∘fl2)=id:=by
  funext f
  obtain⟨a,b⟩:=f
  simp[toF,fl2]
 rw[this,List.map_id]
def yO(O:Except Nat (aa×Nat))(bc:Nat)(e:Ending)(w':World):Prop:=
 match O with
 | .error c=>e=.returned (.tuple #[.string ⟨#[]⟩,.iface 25 (.int .i64 c)])
 | .ok q=>∃S:ByteArray,e=.returned (.tuple #[.string S,.nilIface])/\S.data.toList=q.1/\CI w' bc q.2
theorem Fw(u:P4)(n bc k:Nat)(w:World)(hu:∃A n c bb m A2 n2 c2,u=(.slice A n c,.string bb,.bool m,.slice A2 n2 c2))(hn:n<=1000000)(hk:k<=1000000)(hx:40<=n\/4<=k)(hc:CI w bc n):
  Calls prog 138 #[.pointer (some ⟨bc,0,none⟩),u.v,.int .i64 k] w fun e w'=>yO (.error 4) bc e w'/\w.grownBy w' (some bc):=by
 obtain⟨A,n1,c1,bb,m,A2,n2,c2,rfl⟩:=hu
 have hb0:=aD w (jr (.slice A n1 c1) (.string bb) (.bool m) (.slice A2 n2 c2))
 have HC:=Box.m (hc.below hb0 hc.lt)
 clear hc
 unfold P4.v
 go_enter func138,ntmps138
 go_wp2_with fail
 refine(Jd bc n k _ HC.o hn hk hx).mono ?_
 rintro e w1 ⟨rfl,hw1⟩
 obtain rfl:=hw1.symm
 go_wp2
 go_ret2
 exact⟨rfl,ak hb0 _⟩
theorem MF(A:Option Addr)(n1 c1:Nat)(bb:ByteArray)(m:Bool)(A2:Option Addr)(n2 c2:Nat)(lh:List Fl)(n bc k:Nat)(w:World)(S:Nat->Prop)(hS:∀i,S i->i≠bc)(hH:uW lh)(hF:FLB w S (.slice A n1 c1) lh)(hn2:n2<=1000000)(h40:¬40<=n)(hk:¬4<=k)(hc:CI w bc n)(hG:mg w)(hbc:GB bc)(hmay:xg (lh.map fl2) bb.data.toList m n2=false):
  Calls prog 138 #[.pointer (some ⟨bc,0,none⟩),.agg #[.slice A n1 c1,.string bb,.bool m,.slice A2 n2 c2],.int .i64 k] w fun e w'=>yO (.error 1) bc e w'/\w.grownBy w' (some bc):=by
 have hb0:=aD w (jr (.slice A n1 c1) (.string bb) (.bool m) (.slice A2 n2 c2))
 have HC:=Box.m (hc.below hb0 hc.lt)
 have hbl:=hc.lt
 have HG:=Box.m (hG.below hb0 hG.gb)
 have HF:=Box.m (hF.abv (dM hb0))
 have HH:=Box.m hH
 have HMy:=Box.m hmay
 clear hc hG hF hH hmay
 go_enter func138,ntmps138
 go_wp2_with fail
 refine(uU bc n k _ HC.o h40 hk).mono ?_
 rintro e w1 ⟨rfl,hC1,hg1⟩
 have hk1:=(hg1.block w.heap.size (by simp) (by simp;omega)).trans (bG w (jr (.slice A n1 c1) (.string bb) (.bool m) (.slice A2 n2 c2)))
 obtain⟨x0,x1,x2,x3,xf⟩:=ic hk1
 have HG1:=Box.m (HG.o.gr hg1 hbc (by simp;omega))
 have HF1:=Box.m (FLB.fl (HF.o.abv (nQ hg1 (fun i hi e=>hS i hi (Option.some.inj e)))))
 have hg01:=aO (ak hb0 (some bc)) hg1
 clear HC HG HF hC1
 go_wp2_with fail
 refine(yA A n1 c1 bb m A2 n2 c2 lh _ HH.o HF1.o HG1.o.mx HG1.o.nm hn2).mono ?_
 rintro e w2 ⟨rfl,hb2⟩
 rw[HMy.o]
 go_wp2
 go_ret2
 exact⟨rfl,aO hg01 (ak hb2 _)⟩
end Go.Proofs.YtkldkhdigkpniaaGreatDoor
