import Derived.Test.YtkldkhdigkpniaaGreatDoorZ4
import Derived.Deep.RegionWith
set_option maxHeartbeats 3200000
set_option maxRecDepth 100000
open List renaming length_append → GL, take_of_length_le → VQ, flatten_append → Ws, length_cons → Xu, takeWhile_cons → ZV, getElem?_eq_some_iff → ZW, getElem?_eq_getElem → ZX, map_append → ZY, flatten_cons → ZZ, length_nil → Z0, all_cons → Z4, take_append_drop → Z5, find?_eq_none → Z6, mem_singleton → Z7, flatten_nil → Z8, append_nil → Z9, getD_eq_getElem?_getD → aaa, length_map → aab, getElem_mem → aac
open Nat renaming le_refl → aad, zero_le → aae, le_trans → aaf
open ByteArray renaming size_append → aag
namespace Go.Proofs.YtkldkhdigkpniaaGreatDoor
open Go.RowKit Go.Proofs.Tryz
def eB(f:Fl):Bool:=jY f.1.data.toList&&iK f.2.data.toList
def iE(L:List Fl):Nat:=(L.takeWhile eB).length
theorem zG(L:List Fl)(k:Nat)(f:Fl)(hk:L[k]?=some f)(h:(L.take k).all eB=true)(h':eB f=false):iE L=k:=by
 induction L generalizing k with
 | nil=>exact absurd hk (by simp)
 | cons g L ih=>
  unfold iE
  cases k with
  | zero=>
   simp at hk
   subst hk
   rw[ZV,h'];rfl
  | succ k=>
   simp only[List.take_succ_cons,Z4,Bool.and_eq_true]at h
   rw[ZV,h.1]
   have:=ih k (by simpa using hk) h.2
   unfold iE at this
   show(L.takeWhile eB).length+1=k+1
   rw[this]
theorem NE(L:List Fl)(h:L.all eB=true):iE L=L.length:=by
 induction L with
 | nil=>rfl
 | cons g L ih=>
  simp only[Z4,Bool.and_eq_true]at h
  have:=ih h.2
  unfold iE at this ⊢
  rw[ZV,h.1]
  show(L.takeWhile eB).length+1=L.length+1
  rw[this]
theorem WO(L:List Fl)(k:Nat)(f:Fl)(hk:L[k]?=some f)(h:(L.take k).all eB=true)(h':eB f=true):(L.take (k+1)).all eB=true:=by
 rw[bV L k f hk,List.all_append,h];simp[h']
theorem tX(v:Value)(L:List Fl)(w:World)(hT:lW L)(hF:FL w v L):
  Calls prog 262 #[v] w fun e w'=>e=.returned (.int .i64 (iE L))/\Below w.heap.size w w':=by
 obtain⟨A,cap,rfl,hcap,hcells⟩:=hF
 have HC:=Box.m hcells
 have hlen:=hT.1
 have HT:=Box.m hT
 clear hcells hT
 go_enter func262,ntmps262
 go_wp2
 go_loopw [7] (fun i wr=>∃k:Nat,k<=L.length/\i=.int .i64 k/\Below w.heap.size w wr/\Box ((L.take k).all eB=true)) (fun i _=>L.length - (intOf i).toNat)
 case atStart=>exact⟨0,aae _,rfl,Below.refl _ _,⟨rfl⟩⟩
 case round=>
  obtain⟨k,hk,rfl,hb,HA⟩:=hrel
  have hsz:=hb.size
  by_cases hlt:k<L.length
  ·obtain⟨b,off,n,v,rfl,HN,hn,hv,hbl,d0,d1⟩:=HC.o.elem HT.o hb k hlt
   have hb2:=hb.alloc hsz (.cells #[.string n,.string v] 147)
   clear HC HT
   cases h1:jY n.data.toList
   ·have HF:Box (iE L=k):=⟨zG L k _ HN.o HA.o (by unfold eB;rw[h1];rfl)⟩
    clear HN HA
    go_wp2_with (go_at_call 272;refine(ny _ _ hn).mono ?_;rintro e w' ⟨rfl,rfl⟩)
    go_ret
    exact⟨lv (by rw[HF.o]),hb2⟩
   ·cases h2:iK v.data.toList
    ·have HF:Box (iE L=k):=⟨zG L k _ HN.o HA.o (by unfold eB;rw[h2,Bool.and_false])⟩
     clear HN HA
     go_wp2_with (first|(go_at_call 272;refine(ny _ _ hn).mono ?_;rintro e w' ⟨rfl,rfl⟩)|(go_at_call 274;refine(wR _ _ hv).mono ?_;rintro e w' ⟨rfl,rfl⟩))
     go_ret
     exact⟨lv (by rw[HF.o]),hb2⟩
    ·have HA':Box ((L.take (k+1)).all eB=true):=⟨WO L k _ HN.o HA.o (by unfold eB;rw[h1,h2];rfl)⟩
     clear HN HA
     go_wp2_with (first|(go_at_call 272;refine(ny _ _ hn).mono ?_;rintro e w' ⟨rfl,rfl⟩)|(go_at_call 274;refine(wR _ _ hv).mono ?_;rintro e w' ⟨rfl,rfl⟩))
     go_roundw
     case rel=>exact⟨k+1,by omega,by go_num,hb2,HA'⟩
     case measure=>simp[intOf];omega
  ·have HF:Box (iE L=L.length):=⟨NE L (by rw[<-HA.o,VQ (by omega)])⟩
   clear HA HC HT
   go_wp2
   go_ret
   exact⟨lv (by rw[HF.o]),hb⟩
theorem Q9(v:Value)(L:List Fl)(w:World)(hT:lW L)(hF:FL w v L):
  Calls prog 238 #[v] w fun e w'=>e=.returned (.bool (decide (iE L=L.length)))/\Below w.heap.size w w':=by
 have HF:=Box.m hF
 have hlen:=hT.1
 obtain⟨A,cap,rfl,hcap,_⟩:=hF
 go_enter func238,ntmps238
 go_wp2_with fail
 refine(tX _ L _ hT HF.o).mono ?_
 rintro e w1 ⟨rfl,hb⟩
 go_wp2
 go_ret
 refine⟨aN ?_,hb⟩
 rw[Bool.eq_iff_iff,decide_eq_true_iff,beq_iff_eq]
 omega
def xu(L:List Fl)(s:aa):Option Fl:=L.find? fun f=>decide (ah f.1.data.toList=ah s)
def J3:Option Fl->Value
 | some f=>.tuple #[.string f.2,.bool true]
 | none=>.tuple #[.string ⟨#[]⟩,.bool false]
theorem R9(L:List Fl)(s:aa)(k:Nat)(f:Fl)(hk:L[k]?=some f)(h:∀g∈L.take k,ah g.1.data.toList≠ah s)(h':ah f.1.data.toList=ah s):xu L s=some f:=by
 unfold xu
 rw[<-Z5 k L,List.find?_append,Z6.2 (fun g hg=>by simpa using h g hg)]
 have hl:=(ZW.1 hk).1
 rw[List.drop_eq_getElem_cons hl,(ZW.1 hk).2]
 simp[h']
theorem Qh(L:List Fl)(s:aa)(h:∀g∈L,ah g.1.data.toList≠ah s):xu L s=none:=by
 unfold xu
 rw[Z6]
 exact fun g hg=>by simpa using h g hg
theorem LV{a b:ByteArray}(h:a.data.toList=b.data.toList):(a.toList==b.toList)=true:=by rw[ByteArray.toList_eq,ByteArray.toList_eq,h];simp
theorem K4{a b:ByteArray}(h:a.data.toList≠b.data.toList):(a.toList==b.toList)=false:=by rw[ByteArray.toList_eq,ByteArray.toList_eq];simpa using h
theorem GR(v:Value)(L:List Fl)(s:ByteArray)(w:World)(hs:s.size<=1000000)(hT:lW L)(hF:FL w v L):
  Calls prog 163 #[v,.string s] w fun e w'=>e=.returned (J3 (xu L s.data.toList))/\Below w.heap.size w w':=by
 obtain⟨G,HG⟩:∃G,Box (G=xu L s.data.toList):=⟨_,⟨rfl⟩⟩
 rw[<-HG.o]
 obtain⟨A,cap,rfl,hcap,hcells⟩:=hF
 have HC:=Box.m hcells
 have hlen:=hT.1
 have HT:=Box.m hT
 clear hcells hT
 go_enter func163,ntmps163
 go_wp2_with fail
 refine(iB s _ (by omega)).mono ?_
 rintro e w1 ⟨t1,rfl,ht1,hb1⟩
 have H1:=Box.m ht1
 clear ht1
 go_wp2
 go_loopw [13] (fun i wr=>∃k:Nat,k<=L.length/\i=.int .i64 k/\Below w.heap.size w wr/\Box (∀g∈L.take k,ah g.1.data.toList≠ah s.data.toList)) (fun i _=>L.length - (intOf i).toNat)
 case atStart=>exact⟨0,aae _,rfl,hb1,⟨fun g hg=>absurd hg (by simp)⟩⟩
 case round=>
  obtain⟨k,hk,rfl,hb,HA⟩:=hrel
  have hsz:=hb.size
  by_cases hlt:k<L.length
  ·obtain⟨b,off,n,v,rfl,HN,hn,hv,hbl,d0,d1⟩:=HC.o.elem HT.o hb k hlt
   have hb2:=hb.alloc hsz (.cells #[.string n,.string v] 147)
   clear HC HT
   go_wp2_with fail
   refine(iB n _ (by omega)).mono ?_
   rintro e w2 ⟨t2,rfl,ht2,hb3⟩
   have hb4:=hb2.trans (hb3.mono hb2.size)
   have e1:w2.cell? ⟨wr.heap.size,1,none⟩=some (.string v):=(hb3.cell (p:=⟨wr.heap.size,1,none⟩) (by simp)).trans (by simp)
   by_cases hm:ah n.data.toList=ah s.data.toList
   ·have hq:(t2.toList==t1.toList)=true:=LV (by rw[ht2,H1.o,hm])
    have HF:Box (G=some (n,v)):=⟨by rw[HG.o];exact R9 L _ k _ HN.o HA.o hm⟩
    clear HN HA HG H1 ht2 hm
    go_wp2
    go_ret2
    exact⟨by rw[HF.o];rfl,hb4⟩
   ·have hq:(t2.toList==t1.toList)=false:=K4 (by rw[ht2,H1.o];exact hm)
    have HA':Box (∀g∈L.take (k+1),ah g.1.data.toList≠ah s.data.toList):=⟨fun g hg=>by
     rw[bV L k _ HN.o]at hg
     rcases List.mem_append.1 hg with h|h
     ·exact HA.o g h
     ·obtain rfl:=Z7.1 h
      exact hm⟩
    clear HN HA HG H1 ht2 hm
    go_wp2
    go_roundw
    case rel=>exact⟨k+1,by omega,by go_num,hb4,HA'⟩
    case measure=>simp[intOf];omega
  ·have HF:Box (G=none):=⟨by rw[HG.o];exact Qh L _ (by have:=HA.o;rw[VQ (by omega)]at this;exact this)⟩
   clear HA HC HT HG
   go_wp2
   go_ret2
   exact⟨by rw[HF.o];rfl,hb⟩
def aV(w:World)(B:Nat)(v:Value)(ss:List ByteArray):Prop:=w.ownsRow B 9 1 v ss.length (ss.map Value.string)
theorem Tryz.infoStr:(prog.info? 9).map (fun i=>(i.zero,i.size,i.bytes))=some (some (.string ⟨#[]⟩),1,16):=by kernel_rfl
theorem aV.nil(w:World)(B:Nat):aV w B (.slice none 0 0) []:=World.ownsRow_nil _ _ _ _
theorem aV.below{w w':World}{B C:Nat}{v:Value}{l:List ByteArray}(h:aV w B v l)(hb:Below C w w')(hC:w.heap.size<=C):aV w' B v l:=by
 obtain⟨h1,h2⟩:=h
 refine⟨h1,?_⟩
 rcases h2 with h2|⟨g,cap,cur,a,b,c,d⟩
 ·exact .inl h2
 ·refine .inr ⟨g,cap,cur,a,b,?_,d⟩
  rw[hb.block g ?_]
  ·exact c
  ·have:=(Array.getElem?_eq_some_iff.1 c).1
   omega
theorem aV.shape{w:World}{B:Nat}{v:Value}{l:List ByteArray}(h:aV w B v l):
  (v=.slice none 0 0/\l=[])\/∃g cap,v=.slice (some ⟨g,0,none⟩) l.length cap/\B<=g/\g<w.heap.size/\l.length<=cap/\cap<=maxLen/\∀k (hk:k<l.length),w.cell? ⟨g,k,none⟩=some (.string l[k]):=by
 rcases h.2 with⟨a,b⟩|⟨g,cap,cur,a,b,c,d,e,_⟩
 ·exact .inl ⟨a,List.eq_nil_of_length_eq_zero b⟩
 ·refine .inr ⟨g,cap,a,b,(Array.getElem?_eq_some_iff.1 c).1,d,e,fun k hk=>?_⟩
  have h':=h
  rw[a]at h'
  have hc:=World.ownsRow.cellAt h' k (by omega)
  rw[hc]
  simp[ZX hk]
theorem oK{ops:Array Oper}{rest:List Oper}{o:Oper}{a:Act}{Q:Exit->Act->World->Prop}(wr w0:World)(hgd:o.guard=none)(s x:Operand)(ho:o.op=.call { callee:=.builtin .append,args:=#[s,x],argTypes:=#[52,52] })
  (B:Nat) (v:Value) (l:List ByteArray) (hs:a.eval s=v) (hown:aV wr B v l) (t:ByteArray) (hx:a.eval x=.slice (some ⟨wr.heap.size,0,none⟩) 1 1) (hl:l.length+1<=10000000) (hB:B<=wr.heap.size) (hb:Below B w0 wr)
  (h:∀v' w',aV w' B v' (l++[t])->Below B w0 w'->wpList prog ops Q rest (a.put o.dst v') w'):wpList prog ops Q (o::rest) a (wr.alloc (.cells #[.string t] 9)):=by
 obtain⟨i0,hi,hz0,hz1,hz2⟩:=info_parts Tryz.infoStr
 refine wpList_append_own (wr.alloc (.cells #[.string t] 9)) hgd s x 52 ho B 9 i0 (.string ⟨#[]⟩) 1 16 underlying52 hi hz0 hz1 hz2 rfl (by decide) v l.length (l.map Value.string) hs (World.ownsRow.alloc hown _) ⟨wr.heap.size,0,none⟩ 1 1 [.string t] hx rfl ?_ (by intro u hu;rw[Z7.1 hu];rfl) (by unfold maxLen;omega) (by omega) (by simp;omega) ?_
 ·intro j u hj
  have hj0:j=0:=by
   have:=(ZW.1 hj).1
   simp at this;exact this
  subst hj0
  simp at hj
  subst hj
  simp[Addr.add]
 ·intro v' w' h1 h2 _
  refine h v' w' ?_ ((hb.alloc hB _).grown h2 (by simp;omega) (fun k hk=>(hown.lt k hk).1))
  unfold aV
  rw[GL,ZY]
  exact h1
def Lj(v:aa)(i:Nat):Bool:=decide (0<i)&&(v.getD i 0==32)&&(v.getD (i - 1) 0 != 32)
def dz(v:aa):Nat->List (aa)×Nat
 | 0=>([],0)
 | i+1=>if Lj v i then ((dz v i).1++[(v.drop (dz v i).2).take (i - (dz v i).2)],i) else dz v i
def jC(v:aa):List (aa):=(dz v v.length).1++[v.drop (dz v v.length).2]
theorem Ck(v:aa)(i:Nat):(dz v i).2<=i:=by
 induction i with
 | zero=>exact aad _
 | succ i ih=>
  unfold dz
  split
  ·exact Nat.le_succ _
  ·omega
theorem Ew(v:aa)(i:Nat):(dz v i).1.length<=i:=by
 induction i with
 | zero=>exact aad _
 | succ i ih=>
  unfold dz
  split
  ·simp;omega
  ·omega
theorem Gw(v:aa)(i:Nat):(dz v i).1.flatten=v.take (dz v i).2:=by
 induction i with
 | zero=>rfl
 | succ i ih=>
  have hle:=Ck v i
  unfold dz
  split
  ·simp only[Ws,ih,ZZ,Z8,Z9]
   have:i=(dz v i).2+(i - (dz v i).2):=by omega
   conv=>rhs;rw[this,List.take_add]
  ·exact ih
theorem oH(v:aa):(jC v).flatten=v:=by
 unfold jC
 rw[Ws,Gw]
 simp
theorem xS(v:aa):(jC v).length<=v.length+1:=by
 unfold jC
 rw[GL]
 have:=Ew v v.length
 simp;omega
theorem kJ(v:aa)(i:Nat){ws:List (aa)}{f:Nat}(h:dz v i=(ws,f)):dz v (i+1)=if Lj v i then (ws++[(v.drop f).take (i - f)],i) else (ws,f):=by
 rw[dz,h]
theorem VY(s:ByteArray)(k:Nat)(h0:0<k)(h:k<s.size):Lj s.data.toList k=(((s[k].toNat:Int)==32)&&((s[k - 1].toNat:Int) != 32)):=by
 have e1:s.data.toList.getD k 0=s[k]:=by rw[aaa,xU s k h];rfl
 have e2:s.data.toList.getD (k - 1) 0=s[k - 1]:=by rw[aaa,xU s (k - 1) (by omega)];rfl
 unfold Lj
 rw[e1,e2,decide_eq_true h0,Bool.true_and]
 have a:=CV s[k] 32
 have b:=X6 s[k - 1] 32
 rw[<-a,<-b];rfl
def lst(b:ByteArray):aa:=b.data.toList
theorem RJ(s:ByteArray)(w:World)(hl:s.size<=1000000):
  Calls prog 276 #[.string s] w fun e w'=>∃v ss,e=.returned v/\aV w' w.heap.size v ss/\ss.map lst=jC s.data.toList/\Below w.heap.size w w':=by
 go_enter func276,ntmps276
 go_wp2
 go_loopw [3,4,8] (fun v p i wr=>∃(k f:Nat) (ss:List ByteArray),k<=s.size/\i=.int .i64 k/\p=.int .i64 f/\f<=k/\ss.length<=k/\aV wr w.heap.size v ss/\Below w.heap.size w wr/\Box (dz s.data.toList k=(ss.map lst,f))) (fun _ _ i _=>s.size - (intOf i).toNat)
 case atStart=>exact⟨0,0,[],aae _,rfl,rfl,aad _,aad _,aV.nil _ _,Below.refl _ _,⟨rfl⟩⟩
 case round=>
  obtain⟨k,f,ss,hk,rfl,rfl,hf,hss,hown,hb,HW⟩:=hrel
  have hsz:=hb.size
  by_cases hlt:k<s.size
  ·by_cases h0:k=0
   ·subst h0
    have HW':Box (dz s.data.toList (0+1)=(ss.map lst,f)):=⟨by rw[kJ _ _ HW.o];rfl⟩
    have hz:¬(0:Int)<((0:Nat):Int):=by omega
    clear HW
    go_wp2
    go_roundw
    case rel=>exact⟨0+1,f,ss,by omega,by go_num,rfl,by omega,by omega,hown,hb,HW'⟩
    case measure=>simp[intOf];omega
   ·have hz:(0:Int)<(k:Int):=by omega
    have HCt:=Box.m (VY s k (by omega) hlt)
    have hbyte:(s[k].toNat:Int)<256:=by have:=s[k].toNat_lt;omega
    have hkm:((k:Int) - 1).toNat=k - 1:=by omega
    cases h1:((s[k].toNat:Int)==32)
    ·have HW':Box (dz s.data.toList (k+1)=(ss.map lst,f)):=⟨by rw[kJ _ _ HW.o,HCt.o,h1];rfl⟩
     clear HW HCt
     go_wp2
     go_roundw
     case rel=>exact⟨k+1,f,ss,by omega,by go_num,rfl,by omega,by omega,hown,hb,HW'⟩
     case measure=>simp[intOf];omega
    ·cases h2:((s[k - 1].toNat:Int) != 32)
     ·have HW':Box (dz s.data.toList (k+1)=(ss.map lst,f)):=⟨by rw[kJ _ _ HW.o,HCt.o,h1,h2];rfl⟩
      clear HW HCt
      go_wp2
      go_roundw
      case rel=>exact⟨k+1,f,ss,by omega,by go_num,rfl,by omega,by omega,hown,hb,HW'⟩
      case measure=>simp[intOf];omega
     ·have HW':Box (dz s.data.toList (k+1)=((ss++[s.extract f k]).map lst,k)):=⟨by
       rw[kJ _ _ HW.o,HCt.o,h1,h2,ZY]
       show _=(_++[lst (s.extract f k)],k)
       rw[lst,aB];rfl⟩
      clear HW HCt
      go_wp2_with (at_builtin;refine oK _ w rfl (.tmp 26) (.tmp 31) rfl w.heap.size _ _ rfl hown _ rfl (by omega) hsz hb ?_;intro v' w1 hown1 hb1)
      go_roundw
      case rel=>exact⟨k+1,k,ss++[s.extract f k],by omega,by go_num,rfl,by omega,by simp;omega,hown1,hb1,HW'⟩
      case measure=>simp[intOf];omega
  ·have hke:k=s.size:=by omega
   have HE:Box ((ss++[s.extract f s.size]).map lst=jC s.data.toList):=⟨by
    have:=HW.o
    rw[hke,<-ae]at this
    rw[jC,this,ZY]
    show _++[lst (s.extract f s.size)]=_
    rw[lst,aB,VQ (by rw[List.length_drop,ae];exact aad _)]⟩
   clear HW
   go_wp2_with (at_builtin;refine oK _ w rfl (.tmp 35) (.tmp 39) rfl w.heap.size _ _ rfl hown _ rfl (by omega) hsz hb ?_;intro v' w1 hown1 hb1)
   go_ret
   exact⟨_,_,rfl,hown1,HE.o,hb1⟩
def Pd(q:aa×Nat×Bool)(w:aa):aa×Nat×Bool:=
 if q.2.2&&decide (76<q.2.1+w.length) then (q.1++[13,10]++w,w.length,true) else (q.1++w,q.2.1+w.length,true)
def OV(n:aa):aa×Nat×Bool:=(n++[58,32],n.length+2,false)
def iV(n:aa)(ws:List (aa)):aa×Nat×Bool:=ws.foldl Pd (OV n)
def ng(n v:aa):aa:=(iV n (jC v)).1++[13,10]
theorem yj{α:Type}{P:List α->Prop}(h0:P [])(h1:∀l x,P l->P (l++[x]))(l:List α):P l:=by
 have key:∀l:List α,P l.reverse:=fun l=>by
  induction l with
  | nil=>exact h0
  | cons x l ih=>rw[List.reverse_cons];exact h1 _ _ ih
 have:=key l.reverse
 rwa[List.reverse_reverse]at this
theorem su(n:aa)(ws:List (aa))(x:aa):iV n (ws++[x])=Pd (iV n ws) x:=by unfold iV;rw[List.foldl_append];rfl
theorem DR(n:aa)(ws:List (aa)):(iV n ws).1.length<=n.length+2+ws.flatten.length+2*ws.length/\(iV n ws).2.1<=n.length+2+ws.flatten.length:=by
 induction ws using yj with
 | h0=>simp[iV,OV]
 | h1 ws x ih=>
  rw[su]
  unfold Pd
  simp only[Ws,GL,ZZ,Z8,Xu,Z0,Z9]
  split
  ·simp only[GL,Xu,Z0];omega
  ·simp only[GL];omega
theorem Qz(ws:List (aa))(k:Nat):(ws.take k).flatten.length<=ws.flatten.length:=by
 conv=>rhs;rw[<-Z5 k ws,Ws,GL]
 omega
theorem Cw(n v:aa):(ng n v).length<=n.length+3*v.length+6:=by
 unfold ng
 have h1:=(DR n (jC v)).1
 have h2:=xS v
 rw[oH]at h1
 rw[GL]
 simp only[Xu,Z0]
 omega
theorem Vj(W w':World)(B b:Nat)(s:ByteArray)(l:aa)(n cap:Nat)(hbk:b=W.heap.size)(hcap:cap=grownCap W s.size 0 5)(hn:n=s.size)(hs:s.data.toList=l)(hB:B<=W.heap.size)(hl:s.size<=1000000000)(e:w'.heap=W.heap.push (.cells (bytesRow s cap) 5 ((bytesRow s cap).size,(bytesRow s cap).size+1))):
  jL w' B (.slice (some ⟨b,0,none⟩) n cap) l:=by
 subst hbk
 subst hcap
 subst hs
 subst hn
 exact jL.bytes W w' B s hB hl e
theorem TD(ws:List (aa))(x:aa)(h:x∈ws):x.length<=ws.flatten.length:=by
 induction ws with
 | nil=>exact absurd h (by simp)
 | cons y ws ih=>
  rw[ZZ,GL]
  rcases List.mem_cons.1 h with rfl|h
  ·omega
  ·have:=ih h;omega
theorem RI(n:aa)(ws:List (aa))(j:Nat)(x:aa)(hx:ws[j]?=some x){o:aa}{g:Nat}{q:Bool}(h:iV n (ws.take j)=(o,g,q)):iV n (ws.take (j+1))=if q&&decide (76<g+x.length) then (o++[13,10]++x,x.length,true) else (o++x,g+x.length,true):=by
 rw[bV ws j x hx,su,h];rfl
theorem Kc(n v:ByteArray)(w:World)(hn:n.size<=100000)(hv:v.size<=100000):
  Calls prog 268 #[.agg #[.string n,.string v]] w fun e w'=>∃x,e=.returned x/\jL w' w.heap.size x (ng n.data.toList v.data.toList)/\Below w.heap.size w w':=by
 obtain⟨R,HR⟩:∃R,Box (R=ng n.data.toList v.data.toList):=⟨_,⟨rfl⟩⟩
 rw[<-HR.o]
 have hcv:=ze
 go_enter func268,ntmps268
 go_wp2_with fail
 have hB0:=Vj (w.alloc (.cells #[.string n,.string v] 147)) (((w.alloc (.cells #[.string n,.string v] 147)).alloc (.cells (bytesRow (n++⟨#[58,32]⟩) (grownCap (w.alloc (.cells #[.string n,.string v] 147)) (n.size+2) 0 5)) 5 ((bytesRow (n++⟨#[58,32]⟩) (grownCap (w.alloc (.cells #[.string n,.string v] 147)) (n.size+2) 0 5)).size,(bytesRow (n++⟨#[58,32]⟩) (grownCap (w.alloc (.cells #[.string n,.string v] 147)) (n.size+2) 0 5)).size+1))).drew) w.heap.size (w.heap.size+1) (n++⟨#[58,32]⟩) (n.data.toList++[58,32]) (n.size+2) _ (by simp) (by simp[aag,ByteArray.size_mk']) (by simp[aag,ByteArray.size_mk']) (by simp) (by simp) (by simp[aag,ByteArray.size_mk'];omega) rfl
 have hb0:Below w.heap.size w (((w.alloc (.cells #[.string n,.string v] 147)).alloc (.cells (bytesRow (n++⟨#[58,32]⟩) (grownCap (w.alloc (.cells #[.string n,.string v] 147)) (n.size+2) 0 5)) 5 ((bytesRow (n++⟨#[58,32]⟩) (grownCap (w.alloc (.cells #[.string n,.string v] 147)) (n.size+2) 0 5)).size,(bytesRow (n++⟨#[58,32]⟩) (grownCap (w.alloc (.cells #[.string n,.string v] 147)) (n.size+2) 0 5)).size+1))).drew):=((ag.alloc af _).alloc (by simp) _).drew
 clear hcv
 refine(RJ v _ (by omega)).mono ?_
 rintro e w1 ⟨x,ss,rfl,hownS,hss,hb1⟩
 have hB1:=hB0.below hb1 af
 have g1:Below w.heap.size w w1:=hb0.trans (hb1.mono hb0.size)
 clear hB0 hb0 hb1
 have HSS:=Box.m hss
 have hne:ss≠[]:=by
  intro h
  have:=hss
  rw[h]at this
  unfold jC at this
  simp at this
 clear hss
 rcases hownS.shape with⟨_,h⟩|⟨g,cap,rfl,hgB,hgs,hcap,hmax,hc⟩
 ·exact absurd h hne
 have HC:=Box.m hc
 have hgB':w.heap.size+1<g:=by have:=hgB;simp at this;omega
 have hcnt:ss.length<=v.size+1:=by
  have:=xS v.data.toList
  rw[<-HSS.o,aab,ae]at this
  exact this
 have HL:Box (∀j,((ss.map lst).take j).flatten.length<=v.size):=⟨fun j=>by
  have:=Qz (ss.map lst) j
  rw[HSS.o,oH,ae,<-HSS.o]at this
  exact this⟩
 have HM:Box (∀a∈ss,a.size<=v.size):=⟨fun a ha=>by
  have:=TD (ss.map lst) (lst a) (List.mem_map.2 ⟨a,ha,rfl⟩)
  rw[HSS.o,oH,ae]at this
  rw[lst,ae]at this
  exact this⟩
 have HR':Box (R=(iV n.data.toList (ss.map lst)).1++[13,10]):=⟨by rw[HR.o,HSS.o];rfl⟩
 clear hc hne hownS hgB HSS HR
 go_wp2_with fail
 go_loopw [3,4,17] (fun x p i wr=>∃(j gl:Nat) (o:aa) (h:Nat),j<=ss.length/\i=.int .i64 j/\p=.int .i64 gl/\x.ownBlock=some h/\h≠g/\jL wr w.heap.size x o/\Below w.heap.size w wr/\g<wr.heap.size/\Box (∀k (hk:k<ss.length),wr.cell? ⟨g,k,none⟩=some (.string ss[k]))/\Box (iV n.data.toList ((ss.map lst).take j)=(o,gl,decide (0<j)))) (fun _ _ i _=>ss.length - (intOf i).toNat)
 case atStart=>exact⟨0,n.size+2,n.data.toList++[58,32],w.heap.size+1,aae _,rfl,by go_num,by simp[Value.ownBlock],by omega,hB1,g1,hgs,HC,⟨by unfold iV OV;rw[ae];rfl⟩⟩
 case round=>
  obtain⟨j,gl,o,h,hj,rfl,rfl,hx,hhg,hown,hb,hgw,HCw,HW⟩:=hrel
  have hsz:=hb.size
  have hbd:=DR n.data.toList ((ss.map lst).take j)
  rw[HW.o,ae]at hbd
  have hbd2:=HL.o j
  have hbd3:((ss.map lst).take j).length<=j:=List.length_take_le _ _
  have hol:o.length<=500000:=by have:=hbd.1;simp only at this;omega
  have hgl:gl<=300000:=by have:=hbd.2;simp only at this;omega
  clear hbd hbd2 hbd3
  by_cases hlt:j<ss.length
  ·have hcx:=HCw.o j hlt
   obtain⟨a,ha⟩:∃a,a=ss[j]:=⟨_,rfl⟩
   rw[<-ha]at hcx
   have has:a.size<=v.size:=by rw[ha];exact HM.o _ (aac hlt)
   have HN:Box (iV n.data.toList ((ss.map lst).take (j+1))=if decide (0<j)&&decide (76<gl+a.size) then (o++[13,10]++a.data.toList,a.size,true) else (o++a.data.toList,gl+a.size,true)):=⟨by
    have:=RI n.data.toList (ss.map lst) j (lst a) (by rw[List.getElem?_map,ZX hlt,<-ha];rfl) HW.o
    rw[this,lst,ae]⟩
   have hd:decide (0<j+1)=true:=decide_eq_true (by omega)
   clear ha HW
   by_cases hbr:0<j/\76<gl+a.size
   ·have HN':Box (iV n.data.toList ((ss.map lst).take (j+1))=(o++[13,10]++a.data.toList,a.size,decide (0<j+1))):=⟨by rw[HN.o,decide_eq_true hbr.1,decide_eq_true hbr.2,hd];rfl⟩
    have z1:(0:Int)<(j:Int):=by omega
    have z2:(76:Int)<(gl:Int)+(a.size:Int):=by omega
    clear HN hbr hd
    go_wp2_with (first|(at_builtin;refine Aw _ w rfl (.tmp 31) _ rfl w.heap.size u3 _ rfl hown ⟨#[13,10]⟩ rfl (by simp[ByteArray.size_mk'];omega) hsz hb ?_;intro v2 w2 hown2 hb2 hg2 ho2)|(at_builtin;refine Aw _ w rfl (.tmp 33) _ rfl w.heap.size v2 _ rfl hown2 a rfl (by simp;omega) hb2.size hb2 ?_;intro v3 w3 hown3 hb3 hg3 ho3))
    have hs2:wr.heap.size<=w2.heap.size:=hg2.size
    have hs3:w2.heap.size<=w3.heap.size:=hg3.size
    have hx2:∃h2,v2.ownBlock=some h2/\h2≠g:=by
     rcases ho2 with q|q
     ·exact⟨h,q.trans hx,hhg⟩
     ·exact⟨_,q,by omega⟩
    obtain⟨h2,hx2,hh2⟩:=hx2
    have hx3:∃h3,v3.ownBlock=some h3/\h3≠g:=by
     rcases ho3 with q|q
     ·exact⟨h2,q.trans hx2,hh2⟩
     ·exact⟨_,q,by omega⟩
    obtain⟨h3,hx3,hh3⟩:=hx3
    have HC3:Box (∀k (hk:k<ss.length),w3.cell? ⟨g,k,none⟩=some (.string ss[k])):=⟨fun k hk=>by
     rw[ww hg3 ⟨g,k,none⟩ (by show g<_;omega) (by rw[hx2];simpa using hh2),ww hg2 ⟨g,k,none⟩ hgw (by rw[hx];simpa using hhg)]
     exact HCw.o k hk⟩
    go_roundw
    case rel=>exact⟨j+1,a.size,_,h3,by omega,by go_num,by go_num,hx3,hh3,hown3,hb3,by omega,HC3,HN'⟩
    case measure=>simp[intOf];omega
   ·have HN':Box (iV n.data.toList ((ss.map lst).take (j+1))=(o++a.data.toList,gl+a.size,decide (0<j+1))):=⟨by
     rw[HN.o,if_neg,hd]
     intro hq
     simp at hq
     exact hbr hq⟩
    have hz:¬(0:Int)<(j:Int)\/((0:Int)<(j:Int)/\¬(76:Int)<(gl:Int)+(a.size:Int)):=by omega
    clear HN hbr hd
    rcases hz with z1|⟨z1,z2⟩
    all_goals
     go_wp2_with (at_builtin;refine Aw _ w rfl (.tmp 33) _ rfl w.heap.size u3 _ rfl hown a rfl (by omega) hsz hb ?_;intro v3 w3 hown3 hb3 hg3 ho3)
     have hs3:wr.heap.size<=w3.heap.size:=hg3.size
     have hx3:∃h3,v3.ownBlock=some h3/\h3≠g:=by
      rcases ho3 with q|q
      ·exact⟨h,q.trans hx,hhg⟩
      ·exact⟨_,q,by omega⟩
     obtain⟨h3,hx3,hh3⟩:=hx3
     have HC3:Box (∀k (hk:k<ss.length),w3.cell? ⟨g,k,none⟩=some (.string ss[k])):=⟨fun k hk=>by
      rw[ww hg3 ⟨g,k,none⟩ hgw (by rw[hx];simpa using hhg)]
      exact HCw.o k hk⟩
     go_roundw
     case rel=>exact⟨j+1,gl+a.size,_,h3,by omega,by go_num,by go_num,hx3,hh3,hown3,hb3,by omega,HC3,HN'⟩
     case measure=>simp[intOf];omega
  ·have HE:Box (R=o++[13,10]):=⟨by
    have:=HW.o
    rw[VQ (by rw[aab];omega)]at this
    rw[HR'.o,this]⟩
   clear HW HCw HL HM HR'
   go_wp2_with (at_builtin;refine Aw _ w rfl (.tmp 41) _ rfl w.heap.size _ _ rfl hown ⟨#[13,10]⟩ rfl (by simp[ByteArray.size_mk'];omega) hsz hb ?_;intro v3 w3 hown3 hb3 hg3 ho3)
   go_ret
   exact⟨_,rfl,by rw[HE.o];exact hown3,hb3⟩
def Mid(L:List Fl):Prop:=L.length<=8000/\∀f∈L,f.1.size<=24300/\f.2.size<=24300
theorem Mid.tiny{L:List Fl}(h:Mid L):lW L:=⟨aaf h.1 (by decide),fun f hf=>⟨aaf (h.2 f hf).1 (by decide),aaf (h.2 f hf).2 (by decide)⟩⟩
def sH(f:Fl):aa:=ng f.1.data.toList f.2.data.toList
def bW(L:List Fl):aa:=(L.map sH).flatten
theorem Gd(L:List Fl)(k:Nat)(f:Fl)(h:L[k]?=some f):bW (L.take (k+1))=bW (L.take k)++sH f:=by
 unfold bW
 rw[bV L k f h];simp
theorem Dw(f:Fl)(h:f.1.size<=24300/\f.2.size<=24300):(sH f).length<=97206:=by
 have:=Cw f.1.data.toList f.2.data.toList
 rw[ae,ae]at this
 unfold sH
 omega
theorem J5(L:List Fl)(h:∀f∈L,f.1.size<=24300/\f.2.size<=24300):(bW L).length<=L.length*97206:=by
 induction L with
 | nil=>exact aad _
 | cons f L ih=>
  have h1:=Dw f (h f List.mem_cons_self)
  have h2:=ih fun g hg=>h g (List.mem_cons_of_mem _ hg)
  have:bW (f::L)=sH f++bW L:=rfl
  rw[this,GL,Xu]
  omega
def Ty(w:World)(E:Value)(n p:Int):Prop:=∃b,E=.iface 130 (.pointer (some ⟨b,0,none⟩))/\w.cell? ⟨b,0,none⟩=some (.int .i64 n)/\w.cell? ⟨b,1,none⟩=some (.int .i64 p)
theorem MK(v:Value)(L:List Fl)(w:World)(hM:Mid L)(hF:FL w v L)(hW:iE L=L.length):
  Calls prog 243 #[v] w fun e w'=>∃S:ByteArray,e=.returned (.tuple #[.string S,.nilIface])/\S.data.toList=bW L++[13,10]/\Below w.heap.size w w':=by
 have hlen:=hM.1
 have HM:=Box.m hM
 have HF:=Box.m hF
 have HW:=Box.m hW
 obtain⟨A,cap,rfl,hcap,hcells⟩:=hF
 have HC:=Box.m hcells
 clear hcells hM hW
 go_enter func243,ntmps243
 go_wp2_with fail
 refine(tX _ L _ HM.o.tiny HF.o).mono ?_
 rw[HW.o]
 rintro e w1 ⟨rfl,hb0⟩
 clear HF HW
 go_wp2
 go_loopw [5,20] (fun x i wr=>∃k:Nat,k<=L.length/\i=.int .i64 k/\Own wr w.heap.size x (bW (L.take k))/\Below w.heap.size w wr) (fun _ i _=>L.length - (intOf i).toNat)
 case atStart=>exact⟨0,aae _,rfl,Own.nil _ _,hb0⟩
 case round=>
  obtain⟨k,hk,rfl,hown,hb⟩:=hrel
  have hsz:=hb.size
  have hol:(bW (L.take k)).length<=777648000:=by
   have:=J5 (L.take k) fun f hf=>HM.o.2 f (List.mem_of_mem_take hf)
   have h2:(L.take k).length<=L.length:=List.length_take_le' _ _
   exact aaf this (Nat.mul_le_mul_right _ (aaf h2 HM.o.1))
  by_cases hlt:k<L.length
  ·have hs:=HM.o.2 L[k] (aac hlt)
   obtain⟨b,off,n,v,rfl,HN,hn,hv,hbl,d0,d1⟩:=HC.o.elem HM.o.tiny hb k hlt
   have hnv:L[k]=(n,v):=by
    have:=HN.o
    rw[ZX hlt]at this
    exact Option.some.inj this
   rw[hnv]at hs
   have HS:Box (bW (L.take (k+1))=bW (L.take k)++ng n.data.toList v.data.toList):=⟨Gd L k _ HN.o⟩
   have hfl:=Dw (n,v) hs
   have hfl':(ng n.data.toList v.data.toList).length<=97206:=hfl
   have hs1:n.size<=24300:=hs.1
   have hs2:v.size<=24300:=hs.2
   have hb2:=hb.alloc hsz (.cells #[.string n,.string v] 147)
   have hownA:Own (wr.alloc (.cells #[.string n,.string v] 147)) w.heap.size u5 (bW (L.take k)):=World.ownsRow.alloc hown _
   clear HC HM HN hnv hs hfl hn hv hown
   go_wp2_with fail
   refine(Kc n v _ (by omega) (by omega)).mono ?_
   rintro e w2 ⟨x,rfl,hx,hb3⟩
   have hown2:=hownA.below hb3 af
   have hb4:=hb2.trans (hb3.mono hb2.size)
   clear hownA hb2 hb3
   generalize ng n.data.toList v.data.toList=fl at hx HS hfl'
   have hxc:=hx
   obtain⟨g,c,cur,fz,rfl,hgB,_⟩:=hx
   go_wp2_with (at_builtin;refine nK _ w rfl (.tmp 24) (.tmp 26) rfl w.heap.size _ _ rfl hown2 ⟨g,0,none⟩ _ c fl rfl rfl (fun j hj=>by rw[Addr.add_lit,Nat.zero_add];exact(hxc.cell j hj).1) (by omega) hb4.size hb4 ?_;intro v' w3 hown3 hb5 _)
   go_roundw
   case rel=>exact⟨k+1,by omega,by go_num,by rw[HS.o];exact hown3,hb5⟩
   case measure=>simp[intOf];omega
  ·have HE:Box (bW (L.take k)=bW L):=⟨by rw[VQ (by omega)]⟩
   rw[HE.o]at hown hol
   clear HC HM HE
   go_wp2_with (at_builtin;refine ol _ w rfl (.tmp 29) _ rfl w.heap.size u5 _ rfl hown ⟨#[13,10]⟩ rfl (by simp[ByteArray.size_mk'];omega) hsz hb ?_;intro v2 w2 hown2 hb2;have hcv:=hown2.string)
   go_ret2
   exact⟨_,rfl,rfl,hb2⟩
def Vy(vl:aa)(k:Nat)(ws:List (aa))(wd:aa):Prop:=
 (k<=vl.length/\∃f,dz vl k=(ws,f)/\wd=(vl.drop f).take (k - f))\/(k=vl.length+1/\ws=jC vl/\wd=[])
end Go.Proofs.YtkldkhdigkpniaaGreatDoor
