import Derived.Test.YtkldkhdigkpniaaGreatDoorZ14
import Derived.Test.YtkldkhdigkpniaaGreatDoorZ16
import Derived.Test.YtkldkhdigkpniaaGreatDoorZ18
import Derived.Test.YtkldkhdigkpniaaGreatDoorZJG
set_option maxHeartbeats 2000000
set_option maxRecDepth 100000
open List renaming length_append → GL, length_map → VQ, flatten_cons → Ws, length_cons → Xu, mem_map_of_mem → ZV, find?_map → ZW, getElem_append_left → ZX, getElem?_eq_getElem → ZY
open Nat renaming lt_of_lt_of_le → ZZ, le_trans → Z0, le_of_lt → Z4, le_of_eq → Z5, le_refl → Z6
namespace Go.Proofs.YtkldkhdigkpniaaGreatDoor
open Go.RowKit Go.Proofs.Tryz
def og(M:List FB):Nat:=(M.map fun f=>f.1.length+f.2.length).sum
theorem sO(a b:List FB):og (a++b)=og a+og b:=by simp[og]
theorem Dn(f:FB):og [f]=f.1.length+f.2.length:=by simp[og]
theorem TT(M:List FB)(f:FB)(h:f∈M):f.1.length+f.2.length<=og M:=by
 induction M with
 | nil=>exact absurd h (by simp)
 | cons a M ih=>
  have e:og (a::M)=a.1.length+a.2.length+og M:=by simp[og]
  rw[e]
  rcases List.mem_cons.1 h with rfl|h
  ·omega
  ·have:=ih h;omega
theorem Ir(x:aa)(f:FB)(h:il x=some f):f.1.length+f.2.length<=x.length:=by
 unfold il at h
 split at h
 ·obtain rfl:=(Option.some.inj h).symm
  rcases jX x [58]with⟨_,h⟩|⟨_,h1,h2⟩
  ·simp at h ⊢;omega
  ·simp[h1,h2]
 ·cases h
theorem Jw(acc:List FB)(x:aa):og (oO acc x)<=og acc+x.length/\(oO acc x).length=acc.length:=by
 rcases List.eq_nil_or_concat acc with rfl|⟨M,f,rfl⟩
 ·simp[oO,og]
 ·rw[List.concat_eq_append,xx,sO,sO,Dn,Dn]
  simp;omega
theorem rE:∀(xs:List (aa)) (n:Nat) (acc M:List FB),dm xs n acc=.ok M->og M<=og acc+xs.flatten.length/\M.length<=acc.length+xs.length
 | [],n,acc,M,h=>by
  simp only[dm,Except.ok.injEq]at h
  subst h;simp
 | x::xs,n,acc,M,h=>by
  unfold dm at h
  rw[Ws,GL,Xu]
  split at h
  ·have:=rE xs _ _ M h
   have h2:=Jw acc x
   omega
  ·cases hf:il x with
   | none=>rw[hf]at h;cases h
   | some f=>
    rw[hf]at h
    have:=rE xs _ _ M h
    rw[sO,Dn,GL,List.length_singleton]at this
    have h2:=Ir x f hf
    omega
theorem zK(xs:List (aa))(h:∀x∈xs,x≠[]):xs.length<=xs.flatten.length:=by
 induction xs with
 | nil=>simp
 | cons a xs ih=>
  have h1:=List.length_pos_iff.2 (h a (by simp))
  have:=ih fun x hx=>h x (by simp[hx])
  rw[Ws,GL,Xu];omega
theorem yz(s:aa)(h:List PB×aa)(e:iA s=.ok h):h.1.length<=s.length/\(∀f∈h.1,f.1.length<=s.length/\f.2.length<=s.length)/\h.2.length<=s.length:=by
 unfold iA at e
 have hf:=Gt _ s af
 have hn:=zK _ (Gy _ s af)
 cases hr:dm (hl s).1 0 []with
 | error n=>rw[hr]at e;cases e
 | ok M=>
  rw[hr]at e
  have ht:=rE _ _ _ _ hr
  rw[show og []=0 from rfl,List.length_nil]at ht
  simp only at e
  split at e
  ·obtain rfl:=(Except.ok.inj e).symm
   refine⟨by rw[VQ];omega,?_,by show(hl s).2.length<=_;omega⟩
   intro f hf'
   obtain⟨g,hg,rfl⟩:=List.mem_map.1 hf'
   have h1:=TT M g hg
   have h2:=pK g.2
   show g.1.length<=_/\(trimS g.2).length<=_
   omega
  ·cases e
theorem V3(s:aa)(hs:s.length<=100000)(L:List PB)(hL:L.length<=s.length/\∀f∈L,f.1.length<=s.length/\f.2.length<=s.length)(lh:List Fl)(h:lh.map fl2=L):uW lh:=by
 subst h
 refine⟨by have:=hL.1;rw[VQ]at this;omega,fun f hf=>?_⟩
 have:=hL.2 (fl2 f) (ZV hf)
 unfold fl2 at this
 simp only at this
 rw[ae,ae]at this
 omega
def XT(O:Except Nat (List PB×aa))(B:Nat)(e:Ending)(w':World):Prop:=
 match O with
 | .error c=>e=.returned (.tuple #[.slice none 0 0,.string ⟨#[]⟩,.iface 25 (.int .i64 c)])
 | .ok h=>∃v rr lh,e=.returned (.tuple #[v,.string rr,.nilIface])/\bJ w' B v lh/\lh.map fl2=h.1/\rr.data.toList=h.2
theorem QI(L:List Fl):(L.map fl2).all okB=decide (aM okC L=L.length):=by
 induction L with
 | nil=>rfl
 | cons f L ih=>
  unfold aM at ih ⊢
  rw[List.map_cons,List.all_cons,ih,List.takeWhile_cons]
  have e:okB (fl2 f)=okC f:=rfl
  rw[e]
  cases okC f with
  | false=>simp
  | true=>simp
theorem bJ.mono'{w:World}{B C:Nat}{v:Value}{L:List Fl}(h:bJ w C v L)(hB:B<=C):bJ w B v L:=by
 obtain⟨h1,h2⟩:=h
 refine⟨h1,?_⟩
 rcases h2 with h2|⟨g,cap,cur,a,b,c⟩
 ·exact .inl h2
 ·exact .inr ⟨g,cap,cur,a,Z0 hB b,c⟩
theorem Ep(s:ByteArray)(w:World)(hs:s.size<=100000)(hm:Max w)(hE:uX w):
  Calls prog 220 #[.string s] w fun e w'=>XT (iA s.data.toList) w.heap.size e w'/\Below w.heap.size w w':=by
 obtain⟨O,HO⟩:∃O,Box (O=iA s.data.toList):=⟨_,⟨rfl⟩⟩
 rw[<-HO.o]
 have hlt:=hE.lt
 have HMx:=Box.m hm
 have HEx:=Box.m hE
 clear hm hE
 go_enter func220,ntmps220
 go_wp2_with fail
 refine(TI s _ hs HMx.o).mono ?_
 rintro e w1 ⟨⟨n,E,hr,rfl,b,rfl,c0,c1⟩|⟨v,r,L,rfl,hr,hown,hT,hrr⟩,hb1⟩
 ·have HO':Box (O=.error 3):=⟨by rw[HO.o,iA,hr]⟩
  clear HO hr
  have HE1:=Box.m (HEx.o.below hb1 hlt)
  go_wp2_with fail
  refine(Ow 3 b _ c0 HE1.o).mono ?_
  rintro e w2 ⟨rfl,hb2⟩
  go_wp2
  go_ret3
  refine⟨?_,hb1.trans (hb2.mono hb1.size)⟩
  rw[HO'.o];rfl
 ·have HF:=Box.m hown.fl
  have HT:=Box.m hT
  have HR:=Box.m hrr
  have HO':Box (O=if aM okC L=L.length then .ok ((L.map fl2).map fun f=>(f.1,trimS f.2),(hl s.data.toList).2) else .error 1):=⟨by
   rw[HO.o,iA,hr]
   simp only[QI,decide_eq_true_eq]⟩
  clear HO hr hown hT hrr
  go_wp2_with fail
  refine(La v L _ HT.o HF.o).mono ?_
  rintro e w2 ⟨⟨E,hlt2,rfl,b,rfl,c0,c1⟩|⟨v',M,he,rfl,hown,hM,hTM⟩,hb2⟩
  ·have HE2:=Box.m ((HEx.o.below hb1 hlt).below (hb2.mono af) (ZZ hlt hb1.size))
   have HO2:Box (O=.error 1):=⟨by rw[HO'.o,if_neg (by omega)]⟩
   clear HO' hlt2 c1
   go_wp2_with fail
   refine(Ow 1 b _ c0 HE2.o).mono ?_
   rintro e w3 ⟨rfl,hb3⟩
   go_wp2
   go_ret3
   refine⟨?_,hb1.trans ((hb2.trans (hb3.mono hb2.size)).mono hb1.size)⟩
   rw[HO2.o];rfl
  ·have HO2:Box (O=.ok (M.map fl2,(hl s.data.toList).2)):=⟨by
    rw[HO'.o,if_pos he,hM,List.map_map];rfl⟩
   have hown':=hown.mono' hb1.size
   clear HO' he hM hown
   go_wp2
   go_ret3
   refine⟨?_,hb1.trans (hb2.mono hb1.size)⟩
   rw[HO2.o]
   exact⟨_,_,M,rfl,hown',rfl,HR.o⟩
def ctB:ByteArray:=⟨#[67,111,110,116,101,110,116,45,84,121,112,101]⟩
def jO:ByteArray:=⟨#[67,111,110,116,101,110,116,45,84,114,97,110,115,102,101,114,45,69,110,99,111,100,105,110,103]⟩
structure j6(w:World):Prop where
 c0:w.cell? ⟨3,0,none⟩=some (.string ctB)
 c1:w.cell? ⟨3,1,none⟩=some (.string jO)
theorem j6.lt{w:World}(h:j6 w):3<w.heap.size:=World.block_lt_of_cell? w _ h.c0
theorem j6.below{w w':World}{B:Nat}(h:j6 w)(hb:Below B w w')(hB:3<B):j6 w':=⟨(hb.cell (p:=⟨3,0,none⟩) hB).trans h.c0,(hb.cell (p:=⟨3,1,none⟩) hB).trans h.c1⟩
theorem uL(L:List Fl)(s:aa):vg (L.map fl2) (ah s)=(xu L s).map fl2:=by
 unfold vg xu
 rw[ZW]
 rfl
theorem IP(L:List Fl)(s:aa)(f:Fl)(h:xu L s=some f):f∈L:=List.mem_of_find?_eq_some h
theorem MG(L:List Fl):∃(bb:ByteArray) (q:Bool),J3 (ve L bdN)=.tuple #[.string bb,.bool q]/\bb.data.toList=nU (L.map pb2):=by
 have h:(L.map pb2).find? (fun p=>decide (p.1=bdN))=(ve L bdN).map pb2:=by
  unfold ve
  rw[ZW]
  rfl
 unfold nU
 rw[h]
 cases ve L bdN with
 | none=>exact⟨⟨#[]⟩,false,rfl,rfl⟩
 | some f=>exact⟨f.2,true,rfl,rfl⟩
theorem jR(l:aa)(c:UInt8):Lib.hasSuffix l [c]=decide (l.getLast?=some c):=by
 unfold Lib.hasSuffix
 rw[Bool.eq_iff_iff,decide_eq_true_eq,List.isSuffixOf_iff_suffix]
 constructor
 ·rintro⟨t,rfl⟩;simp
 ·intro h
  obtain⟨t,rfl⟩:=List.getLast?_eq_some_iff.1 h
  exact⟨t,rfl⟩
theorem BF(t:ByteArray)(l:aa)(h:t.data.toList=l):(t.toList==l)=true:=by rw[ByteArray.toList_eq,h];exact beq_self_eq_true _
theorem Bd(t:ByteArray)(l:aa)(h:¬t.data.toList=l):(t.toList==l)=false:=by rw[ByteArray.toList_eq,beq_eq_false_iff_ne];exact h
def SX(O:Except Nat (Option (aa)))(e:Ending):Prop:=
 match O with
 | .error c=>e=.returned (.tuple #[.string ⟨#[]⟩,.iface 25 (.int .i64 c)])
 | .ok none=>e=.returned (.tuple #[.string ⟨#[]⟩,.nilIface])
 | .ok (some b)=>∃bb:ByteArray,e=.returned (.tuple #[.string bb,.nilIface])/\bb.data.toList=b/\¬bb.size=0/\bb.size<=70
theorem FM(v:Value)(lh:List Fl)(w:World)(hT:uW lh)(hF:FL w v lh)(hm:Max w)(hN:j6 w):
  Calls prog 221 #[v] w fun e w'=>SX (aS (lh.map fl2)) e/\Below w.heap.size w w':=by
 obtain⟨O,HO⟩:∃O,Box (O=aS (lh.map fl2)):=⟨_,⟨rfl⟩⟩
 rw[<-HO.o]
 obtain⟨n0,n1⟩:=hN
 have hg:=uL lh ctB.data.toList
 rw[show ah ctB.data.toList=ctN by decide]at hg
 have HMx:=Box.m hm
 have HT:=Box.m hT
 have HF:=Box.m hF
 have hlt:=hm.1
 clear hm hT hF
 go_enter func221,ntmps221
 go_wp2_with fail
 refine(GR v lh ctB _ (by decide) HT.o.tiny HF.o).mono ?_
 rintro e w1 ⟨rfl,hb1⟩
 cases hgs:xu lh ctB.data.toList with
 | none=>
  rw[hgs]at hg
  have HO':Box (O=.ok none):=⟨by rw[HO.o,aS,hg];rfl⟩
  clear hg hgs HO
  rw[show J3 none=.tuple #[.string ⟨#[]⟩,.bool false]from rfl]
  go_wp2
  go_ret2
  refine⟨?_,hb1⟩
  rw[HO'.o];rfl
 | some f=>
  rw[hgs]at hg
  have hfs:=(HT.o.2 f (IP _ _ _ hgs)).2
  have HO':Box (O=match eO f.2.data.toList with
   | none=>.error 3
   | some q=>if Cf.isPrefixOf q.1 then (if 1<=(nU q.2).length/\(nU q.2).length<=70/\(nU q.2).getLast?≠some 32 then .ok (some (nU q.2)) else .error 3) else .ok none):=⟨by rw[HO.o,aS,hg];rfl⟩
  have HM1:=Box.m (HMx.o.below hb1 hlt)
  clear hg hgs HO HMx
  obtain⟨fn,fv⟩:=f
  rw[show J3 (some (fn,fv))=.tuple #[.string fv,.bool true]from rfl]
  go_wp2_with fail
  refine(uJ fv _ hfs HM1.o).mono ?_
  rintro e w2 ⟨hR,hb2⟩
  have hb02:=hb1.trans (hb2.mono hb1.size)
  unfold OM at hR
  cases hk:eO fv.data.toList with
  | none=>
   rw[hk]at hR
   obtain rfl:=hR
   have HO2:Box (O=.error 3):=⟨by rw[HO'.o];simp only[hk]⟩
   clear HO' hk
   go_wp2
   go_ret2
   refine⟨?_,hb02⟩
   rw[HO2.o];rfl
  | some q=>
   rw[hk]at hR
   obtain⟨m,vq,L,rfl,hm,hown,hL,hms,hLs,hfsz⟩:=hR
   have HO2:Box (O=if Cf.isPrefixOf q.1 then (if 1<=(nU q.2).length/\(nU q.2).length<=70/\(nU q.2).getLast?≠some 32 then .ok (some (nU q.2)) else .error 3) else .ok none):=⟨by rw[HO'.o];simp only[hk]⟩
   have HFL:=Box.m hown.fl
   have HTL:Box (lW L):=⟨⟨by omega,fun g hg=>by have:=hfsz g hg;omega⟩⟩
   rw[<-hm,<-hL]at HO2
   clear HO' hk hm hL hown hfsz
   go_wp2_with fail
   refine(Tryz.strings_HasPrefix m ⟨#[109,117,108,116,105,112,97,114,116,47]⟩ _).mono ?_
   rintro e w3 ⟨rfl,hw3⟩
   obtain rfl:=hw3.symm
   have hpe:Lib.hasPrefix m.data.toList (⟨#[109,117,108,116,105,112,97,114,116,47]⟩:ByteArray).data.toList=Cf.isPrefixOf m.data.toList:=rfl
   rw[hpe]
   clear hpe
   cases hp:Cf.isPrefixOf m.data.toList with
   | false=>
    have HO3:Box (O=.ok none):=⟨by rw[HO2.o,hp];rfl⟩
    clear HO2 hp
    go_wp2
    go_ret2
    refine⟨?_,hb02⟩
    rw[HO3.o];rfl
   | true=>
    obtain⟨bb,qq,hV,hbb⟩:=MG L
    have HO3:Box (O=if 1<=bb.data.toList.length/\bb.data.toList.length<=70/\bb.data.toList.getLast?≠some 32 then .ok (some bb.data.toList) else .error 3):=⟨by rw[HO2.o,hp,hbb];rfl⟩
    have HV:=Box.m hV
    rw[ae]at HO3
    clear HO2 hp hV hbb
    go_wp2_with fail
    refine(JH vq L ⟨#[98,111,117,110,100,97,114,121]⟩ _ HTL.o HFL.o).mono ?_
    rintro e w4 ⟨rfl,hb4⟩
    have hb04:=hb02.trans (hb4.mono hb02.size)
    rw[show(⟨#[98,111,117,110,100,97,114,121]⟩:ByteArray).data.toList=bdN from rfl,HV.o]
    clear HV HTL HFL
    by_cases h0:bb.size=0
    ·have he:=dC bb h0
     have HO4:Box (O=.error 3):=⟨by rw[HO3.o,if_neg (fun h=>by omega)]⟩
     clear HO3 h0
     go_wp2
     go_ret2
     refine⟨?_,hb04⟩
     rw[HO4.o];rfl
    ·have he:=bN bb h0
     by_cases h1:70<bb.size
     ·have HO4:Box (O=.error 3):=⟨by rw[HO3.o,if_neg (fun h=>by omega)]⟩
      clear HO3
      go_wp2
      go_ret2
      refine⟨?_,hb04⟩
      rw[HO4.o];rfl
     ·go_wp2_with fail
      refine(Sx.Tryz.strings_HasSuffix bb ⟨#[32]⟩ _ (by omega)).mono ?_
      rintro e w5 ⟨rfl,hw5⟩
      obtain rfl:=hw5.symm
      have hse:Lib.hasSuffix bb.data.toList (⟨#[32]⟩:ByteArray).data.toList=decide (bb.data.toList.getLast?=some 32):=jR _ _
      rw[hse]
      clear hse
      by_cases h2:bb.data.toList.getLast?=some 32
      ·have HO4:Box (O=.error 3):=⟨by rw[HO3.o,if_neg (fun h=>h.2.2 h2)]⟩
       rw[decide_eq_true h2]
       clear HO3 h2
       go_wp2
       go_ret2
       refine⟨?_,hb04⟩
       rw[HO4.o];rfl
      ·have HO4:Box (O=.ok (some bb.data.toList)):=⟨by rw[HO3.o,if_pos ⟨by omega,by omega,h2⟩]⟩
       rw[decide_eq_false h2]
       clear HO3 h2
       go_wp2
       go_ret2
       refine⟨?_,hb04⟩
       rw[HO4.o]
       exact⟨bb,rfl,rfl,h0,by omega⟩
def Jr(O:Except Nat (aa))(e:Ending):Prop:=
 match O with
 | .error c=>e=.returned (.tuple #[.string ⟨#[]⟩,.iface 25 (.int .i64 c)])
 | .ok b=>e=.returned (.tuple #[.string ⟨b.toArray⟩,.nilIface])
theorem yh(s:ByteArray):(⟨s.data.toList.toArray⟩:ByteArray)=s:=by simp
theorem JD(o:Option (aa)):Jr (kQ 3 o) (.returned (Tx.unV o)):=by cases o<;>rfl
theorem Ii(v:Value)(lh:List Fl)(s:ByteArray)(w:World)(hs:s.size<=20000)(hT:uW lh)(hF:FL w v lh)(hm:Max w)(hN:j6 w):
  Calls prog 257 #[v,.string s] w fun e w'=>Jr (eX (lh.map fl2) s.data.toList) e/\Below w.heap.size w w':=by
 obtain⟨O,HO⟩:∃O,Box (O=eX (lh.map fl2) s.data.toList):=⟨_,⟨rfl⟩⟩
 rw[<-HO.o]
 obtain⟨n0,n1⟩:=hN
 have hg:=uL lh jO.data.toList
 rw[show ah jO.data.toList=xH by decide]at hg
 have HMx:=Box.m hm
 have HT:=Box.m hT
 have HF:=Box.m hF
 have hlt:=hm.1
 clear hm hT hF
 go_enter func257,ntmps257
 go_wp2_with fail
 refine(GR v lh jO _ (by decide) HT.o.tiny HF.o).mono ?_
 rintro e w1 ⟨rfl,hb1⟩
 cases hgs:xu lh jO.data.toList with
 | none=>
  rw[hgs]at hg
  have HO':Box (O=.ok s.data.toList):=⟨by rw[HO.o,eX,hg];rfl⟩
  clear hg hgs HO
  rw[show J3 none=.tuple #[.string ⟨#[]⟩,.bool false]from rfl]
  go_wp2
  go_ret2
  refine⟨?_,hb1⟩
  rw[HO'.o]
  show _=_
  rw[yh]
  rfl
 | some f=>
  rw[hgs]at hg
  have hfs:=(HT.o.2 f (IP _ _ _ hgs)).2
  have HO':Box (O=if ah f.2.data.toList=KN\/ah f.2.data.toList=Xm\/ah f.2.data.toList=WQ then .ok s.data.toList else if ah f.2.data.toList=D8 then kQ 3 (Tx.unpackS s.data.toList) else if ah f.2.data.toList=qpN then kQ 3 (Tx.unquoteS s.data.toList) else .error 5):=⟨by rw[HO.o,eX,hg];rfl⟩
  have HM1:Box (Tx.Max w1):=⟨HMx.o.below hb1 hlt⟩
  clear hg hgs HO HMx
  obtain⟨fn,fv⟩:=f
  rw[show J3 (some (fn,fv))=.tuple #[.string fv,.bool true]from rfl]
  go_wp2_with fail
  refine(iB fv _ (Z0 hfs (by decide))).mono ?_
  rintro e w2 ⟨t,rfl,ht,hb2⟩
  have hb02:=hb1.trans (hb2.mono hb1.size)
  have HM2:Box (Tx.Max w2):=⟨HM1.o.below hb2 (ZZ hlt hb1.size)⟩
  rw[<-ht]at HO'
  clear ht HM1
  by_cases h7:t.data.toList=KN
  ·have e1:=BF t [55,98,105,116] h7
   have HO2:Box (O=.ok s.data.toList):=⟨by rw[HO'.o,if_pos (.inl h7)]⟩
   clear HO' h7
   go_wp2
   go_ret2
   refine⟨?_,hb02⟩
   rw[HO2.o]
   show _=_
   rw[yh]
   rfl
  ·have e1:=Bd t [55,98,105,116] h7
   by_cases h8:t.data.toList=Xm
   ·have e2:=BF t [56,98,105,116] h8
    have HO2:Box (O=.ok s.data.toList):=⟨by rw[HO'.o,if_pos (.inr (.inl h8))]⟩
    clear HO' h7 h8
    go_wp2
    go_ret2
    refine⟨?_,hb02⟩
    rw[HO2.o]
    show _=_
    rw[yh]
    rfl
   ·have e2:=Bd t [56,98,105,116] h8
    by_cases hbn:t.data.toList=WQ
    ·have e3:=BF t [98,105,110,97,114,121] hbn
     have HO2:Box (O=.ok s.data.toList):=⟨by rw[HO'.o,if_pos (.inr (.inr hbn))]⟩
     clear HO' h7 h8 hbn
     go_wp2
     go_ret2
     refine⟨?_,hb02⟩
     rw[HO2.o]
     show _=_
     rw[yh]
     rfl
    ·have e3:=Bd t [98,105,110,97,114,121] hbn
     have HO2:Box (O=if t.data.toList=D8 then kQ 3 (Tx.unpackS s.data.toList) else if t.data.toList=qpN then kQ 3 (Tx.unquoteS s.data.toList) else .error 5):=⟨by rw[HO'.o,if_neg (by rintro(h|h|h);exact h7 h;exact h8 h;exact hbn h)]⟩
     clear HO' h7 h8 hbn
     by_cases h6:t.data.toList=D8
     ·have e4:=BF t [98,97,115,101,54,52] h6
      have HO3:Box (O=kQ 3 (Tx.unpackS s.data.toList)):=⟨by rw[HO2.o,if_pos h6]⟩
      clear HO2 h6
      go_wp2_with fail
      refine(Tx.unpack_any s _ (by omega)).mono ?_
      rintro e w3 ⟨rfl,hb3⟩
      have hb03:=hb02.trans (hb3.mono hb02.size)
      have HD:Box (Jr O (.returned (Tx.unV (Tx.unpackS s.data.toList)))):=⟨by rw[HO3.o];exact JD _⟩
      clear HO3
      cases hu:Tx.unpackS s.data.toList<;>rw[hu]at HD<;>clear hu
      all_goals
       dsimp only[Tx.unV]at HD ⊢
       go_wp2
       go_ret2
       exact⟨HD.o,hb03⟩
     ·have e4:=Bd t [98,97,115,101,54,52] h6
      by_cases hq:t.data.toList=qpN
      ·have e5:=BF t [113,117,111,116,101,100,45,112,114,105,110,116,97,98,108,101] hq
       have HO3:Box (O=kQ 3 (Tx.unquoteS s.data.toList)):=⟨by rw[HO2.o,if_neg h6,if_pos hq]⟩
       clear HO2 h6 hq
       go_wp2_with fail
       refine(Tx.unquote_any s _ (by omega) HM2.o).mono ?_
       rintro e w3 ⟨rfl,hb3⟩
       have hb03:=hb02.trans (hb3.mono hb02.size)
       have HD:Box (Jr O (.returned (Tx.unV (Tx.unquoteS s.data.toList)))):=⟨by rw[HO3.o];exact JD _⟩
       clear HO3
       cases hu:Tx.unquoteS s.data.toList<;>rw[hu]at HD<;>clear hu
       all_goals
        dsimp only[Tx.unV]at HD ⊢
        go_wp2
        go_ret2
        exact⟨HD.o,hb03⟩
      ·have e5:=Bd t [113,117,111,116,101,100,45,112,114,105,110,116,97,98,108,101] hq
       have HO3:Box (O=.error 5):=⟨by rw[HO2.o,if_neg h6,if_neg hq]⟩
       clear HO2 h6 hq
       go_wp2
       go_ret2
       refine⟨?_,hb02⟩
       rw[HO3.o];rfl
theorem bG(w:World)(A:Obj):(w.alloc A).heap[w.heap.size]?=some A:=by
 show(w.heap.push A)[w.heap.size]?=_
 simp
theorem aD(w:World)(A:Obj):Below w.heap.size w (w.alloc A):=ag.alloc af _
theorem iC(w:World)(A:Obj):(w.alloc A).heap.size=w.heap.size+1:=by simp
structure B4(w:World)(b:Nat)(v0 v1 v2 v3:Value):Prop where
 c0:w.cell? ⟨b,0,none⟩=some v0
 c1:w.cell? ⟨b,1,none⟩=some v1
 c2:w.cell? ⟨b,2,none⟩=some v2
 c3:w.cell? ⟨b,3,none⟩=some v3
 fz:∀i,w.frozen? ⟨b,i,none⟩=false
theorem ic{w:World}{b:Nat}{v0 v1 v2 v3:Value}(h:w.heap[b]?=some (.cells #[v0,v1,v2,v3] 92 (0,0))):B4 w b v0 v1 v2 v3:=
 ⟨by simp[World.cell?,h],by simp[World.cell?,h],by simp[World.cell?,h],by simp[World.cell?,h],fun i=>by simp[World.frozen?,h]⟩
abbrev iP:Obj:=.cells #[.slice none 0 0,.string ⟨#[]⟩,.bool false,.slice none 0 0] 92
abbrev pG:Value:=.agg #[.slice none 0 0,.string ⟨#[]⟩,.bool false,.slice none 0 0]
def X4(O:Except Nat (aa))(v:Value)(e:Ending):Prop:=
 match O with
 | .error c=>e=.returned (.tuple #[pG,.iface 25 (.int .i64 c)])
 | .ok b=>e=.returned (.tuple #[.agg #[v,.string ⟨b.toArray⟩,.bool false,.slice none 0 0],.nilIface])
theorem D6(v:Value)(lh:List Fl)(s:ByteArray)(w:World)(hs:s.size<=20000)(hT:uW lh)(hF:FL w v lh)(hm:Max w)(hN:j6 w):
  Calls prog 222 #[v,.string s] w fun e w'=>X4 (eX (lh.map fl2) s.data.toList) v e/\Below w.heap.size w w':=by
 obtain⟨A,n,cap,hv⟩:∃A n cap,v=.slice A n cap:=by obtain⟨A,cap,hv,_⟩:=hF;exact⟨A,_,cap,hv⟩
 subst hv
 have hb0:=aD w iP
 have HMx:=Box.m (hm.below hb0 hm.1)
 have HNx:=Box.m (hN.below hb0 hN.lt)
 have HT:=Box.m hT
 have HF:=Box.m (hF.below hb0 af)
 obtain⟨O,HO⟩:∃O,Box (O=eX (lh.map fl2) s.data.toList):=⟨_,⟨rfl⟩⟩
 rw[<-HO.o]
 clear hm hN hT hF
 go_enter func222,ntmps222
 go_wp2_with fail
 refine(Ii _ lh s _ hs HT.o HF.o HMx.o HNx.o).mono ?_
 rintro e w1 ⟨hD,hb1⟩
 rw[<-HO.o]at hD
 have hsz1:=hb1.size
 have b1:=hb0.trans (hb1.mono (by rw[iC];omega))
 obtain⟨x0,x1,x2,x3,xf⟩:=ic ((hb1.block w.heap.size (by simp)).trans (bG w iP))
 clear HT HF HMx HNx HO hb1
 unfold Jr at hD
 cases O with
 | error c=>
  obtain rfl:=hD
  go_wp2
  refine bodyPost_ret (v:=.tuple #[pG,.iface 25 (.int .i64 c)]) (by simp[results,results222,go_sem,x0,x1,x2,x3]) rfl ⟨rfl,?_⟩
  iterate 4 (refine Below.setCell ?_ (by simp) _)
  exact b1
 | ok b=>
  obtain rfl:=hD
  obtain⟨bb,HB⟩:∃bb:ByteArray,Box (bb=⟨b.toArray⟩):=⟨_,⟨rfl⟩⟩
  rw[<-HB.o]
  go_wp2
  refine bodyPost_ret (v:=.tuple #[.agg #[.slice A n cap,.string bb,.bool false,.slice none 0 0],.nilIface]) (by simp[results,results222,go_sem,x0,x1,x2,x3]) rfl ⟨by rw[HB.o];rfl,?_⟩
  iterate 4 (refine Below.setCell ?_ (by simp) _)
  exact b1
structure mg(w:World):Prop where
 mx:Max w
 nm:j6 w
 et:uX w
structure GB(b:Nat):Prop where
 g0:0<b
 g1:3<b
 g2:2<b
theorem GB.mono{a b:Nat}(h:GB a)(hb:a<=b):GB b:=⟨ZZ h.g0 hb,ZZ h.g1 hb,ZZ h.g2 hb⟩
theorem mg.gb{w:World}(h:mg w):GB w.heap.size:=⟨h.mx.1,h.nm.lt,h.et.lt⟩
theorem mg.below{w w':World}{B:Nat}(h:mg w)(hb:Below B w w')(hB:GB B):mg w':=⟨h.mx.below hb hB.g0,h.nm.below hb hB.g1,h.et.below hb hB.g2⟩
theorem mg.gr{w w':World}{bc:Nat}(h:mg w)(hg:w.grownBy w' (some bc))(hc:GB bc)(hl:bc<w.heap.size):mg w':=h.below (iX hg af hl) hc
theorem vO{w a:World}{bc b k:Nat}(h:w.grownBy a (some bc))(hb:w.heap.size<=b)(v:Value):w.grownBy (a.setCell ⟨b,k,none⟩ v) (some bc):=
 ⟨h.os,h.tape,h.output,by simpa using h.size,fun i hi hr=>(heap_setCell_other a ⟨b,k,none⟩ i v (by show i≠b;omega)).trans (h.block i hi hr)⟩
theorem Um{w a c:World}{bc:Nat}{r:Option Nat}(h:w.grownBy a (some bc))(k:a.grownBy c r)(hr:∀k,r=some k->w.heap.size<=k):w.grownBy c (some bc):=
 ⟨k.os.trans h.os,k.tape.trans h.tape,k.output.trans h.output,Z0 h.size k.size,fun i hi hb=>(k.block i (ZZ hi h.size) (fun e=>by have:=hr i e.symm;omega)).trans (h.block i hi hb)⟩
theorem CI.own{w w':World}{b n:Nat}{r:Option Nat}(h:CI w b n)(hg:w.grownBy w' r)(hne:some b≠r):CI w' b n:=by
 have e:w'.heap[b]?=w.heap[b]?:=hg.block b h.lt hne
 exact⟨(World.cell?_of_block (a:=⟨b,0,none⟩) e).trans h.c,(World.frozen?_of_block (a:=⟨b,0,none⟩) e).trans h.f,ZZ h.lt hg.size⟩
theorem Vo{w a:World}{bc:Nat}(h:w.grownBy a (some bc))(o:Obj):w.grownBy (a.alloc o) (some bc):=aO h (ak (aD a o) _)
theorem Bq(w:World)(A B:Obj):Below w.heap.size w ((w.alloc A).alloc B):=(ag.alloc af _).alloc (by simp) _
theorem PV.shape{w:World}{S:Nat->Prop}{d:Nat}{v:P4}{p:PT}(h:PV w S d v p):∃A n c bb m A2 n2 c2,v=(.slice A n c,.string bb,.bool m,.slice A2 n2 c2):=by
 match d,p,h with
 | 0,_,h=>exact h.elim
 | d+1,.mk L b many ps,h=>
  obtain⟨A,cap,bb,lh,h1,h2,h3,⟨A',cap',h4,_⟩,_⟩:=h
  obtain⟨a,b,c,d⟩:=v
  simp only at h1 h2 h3 h4
  subst h1 h2 h3 h4
  exact⟨_,_,_,_,_,_,_,_,rfl⟩
def Ho(O:Except Nat (PT×Nat))(d bc B:Nat)(e:Ending)(w':World):Prop:=
 match O with
 | .error c=>e=.returned (.tuple #[pG,.iface 25 (.int .i64 c)])
 | .ok q=>∃v:P4,e=.returned (.tuple #[v.v,.nilIface])/\PV w' (fun i=>B<=i) d v q.1/\CI w' bc q.2
def PVL(w:World)(S:Nat->Prop)(d:Nat)(L:List P4)(ps:List PT):Prop:=L.length=ps.length/\∀i (h:i<L.length) (h':i<ps.length),PV w S d L[i] ps[i]
theorem PVL.mono{w:World}{S T:Nat->Prop}{d:Nat}{L:List P4}{ps:List PT}(h:PVL w S d L ps)(hS:∀i,i<w.heap.size->S i->T i):PVL w T d L ps:=⟨h.1,fun i h1 h2=>PV.mono hS _ _ _ (h.2 i h1 h2)⟩
theorem PVL.abv{w w':World}{S:Nat->Prop}{d:Nat}{L:List P4}{ps:List PT}(h:PVL w S d L ps)(ha:Abv S w w'):PVL w' S d L ps:=⟨h.1,fun i h1 h2=>PV.abv ha _ _ _ (h.2 i h1 h2)⟩
theorem PVL.nil(w:World)(S:Nat->Prop)(d:Nat):PVL w S d [] []:=⟨rfl,fun i h=>absurd h (by simp)⟩
theorem PVL.snoc{w:World}{S:Nat->Prop}{d:Nat}{L:List P4}{ps:List PT}(h:PVL w S d L ps)(v:P4)(p:PT)(hp:PV w S d v p):PVL w S d (L++[v]) (ps++[p]):=by
 obtain⟨h1,h2⟩:=h
 refine⟨by simp[h1],fun i hi hi'=>?_⟩
 by_cases hl:i<L.length
 ·rw[ZX hl,ZX (by omega)]
  exact h2 i hl (by omega)
 ·have:i=L.length:=by simp at hi;omega
  subst this
  rw[List.getElem_concat_length rfl,List.getElem_append_right (by omega)]
  simp[h1,hp]
def xk{α β:Type}(f:Nat->α->Except Nat (β×Nat))(xs:List α)(R:Except Nat (List β×Nat))(i m:Nat)(acc:List β):Prop:=
 R=match dA f (xs.drop i) m with
  | .error c=>.error c
  | .ok r=>.ok (acc++r.1,r.2)
theorem FH{α β:Type}(f:Nat->α->Except Nat (β×Nat))(xs:List α)(n:Nat):xk f xs (dA f xs n) 0 n []:=by
 unfold xk
 rw[List.drop_zero]
 cases dA f xs n<;>rfl
theorem Ob{α β:Type}{f:Nat->α->Except Nat (β×Nat)}{xs:List α}{R:Except Nat (List β×Nat)}{i m:Nat}{acc:List β}(h:xk f xs R i m acc)(x:α)(hx:xs[i]?=some x)(c:Nat)(hf:f m x=.error c):R=.error c:=by
 unfold xk at h
 rw[h,oN xs i x hx,dA,hf]
theorem TQ{α β:Type}{f:Nat->α->Except Nat (β×Nat)}{xs:List α}{R:Except Nat (List β×Nat)}{i m:Nat}{acc:List β}(h:xk f xs R i m acc)(x:α)(hx:xs[i]?=some x)(q:β×Nat)(hf:f m x=.ok q):xk f xs R (i+1) q.2 (acc++[q.1]):=by
 unfold xk at h ⊢
 rw[h,oN xs i x hx,dA,hf]
 simp only
 cases hh:dA f (xs.drop (i+1)) q.2 with
 | error c=>rfl
 | ok r=>simp
theorem OD{α β:Type}{f:Nat->α->Except Nat (β×Nat)}{xs:List α}{R:Except Nat (List β×Nat)}{i m:Nat}{acc:List β}(h:xk f xs R i m acc)(hi:xs.length<=i):R=.ok (acc,m):=by
 unfold xk at h
 rw[h,List.drop_of_length_le hi,dA]
 simp
theorem pO:∀(d n:Nat) (s:aa) (q:PT×Nat),bU d n s=.ok q->n<=40->q.2<=40:=by
 intro d
 induction d with
 | zero=>intro n s q h;cases h
 | succ d ih=>
  intro n s q h hn
  unfold bU at h
  split at h
  ·cases h
  ·have hall:∀(xs:List (aa)) (n:Nat) (r:List PT×Nat),dA (bU d) xs n=.ok r->n<=40->r.2<=40:=by
    intro xs
    induction xs with
    | nil=>intro n r h hn;simp only[dA,Except.ok.injEq]at h;subst h;exact hn
    | cons x xs ihx=>
     intro n r h hn
     unfold dA at h
     cases h1:bU d n x with
     | error c=>rw[h1]at h;cases h
     | ok q1=>
      rw[h1]at h
      simp only at h
      cases h2:dA (bU d) xs q1.2 with
      | error c=>rw[h2]at h;cases h
      | ok q2=>
       rw[h2]at h
       simp only[Except.ok.injEq]at h
       subst h
       exact ihx q1.2 q2 h2 (ih _ _ _ h1 hn)
   cases h1:iA s with
   | error c=>rw[h1]at h;cases h
   | ok hh=>
    rw[h1]at h
    simp only at h
    cases h2:aS hh.1 with
    | error c=>rw[h2]at h;cases h
    | ok o=>
     rw[h2]at h
     cases o with
     | none=>
      simp only at h
      cases h3:eX hh.1 hh.2 with
      | error c=>rw[h3]at h;cases h
      | ok b=>rw[h3]at h;simp only[Except.ok.injEq]at h;subst h;show n+1<=40;omega
     | some b=>
      simp only at h
      cases h3:dV b hh.2 with
      | none=>rw[h3]at h;cases h
      | some xs=>
       rw[h3]at h
       simp only at h
       cases h4:dA (bU d) xs (n+1)with
       | error c=>rw[h4]at h;cases h
       | ok r=>
        rw[h4]at h
        simp only[Except.ok.injEq]at h
        subst h
        exact hall _ _ _ h4 (by omega)
theorem FX{w:World}{B C:Nat}{v:Value}{L:List P4}(h:fD w C v L)(hB:B<=C):fD w B v L:=by
 obtain⟨h1,h2⟩:=h
 refine⟨h1,?_⟩
 rcases h2 with h2|⟨g,cap,cur,a,b,c⟩
 ·exact .inl h2
 ·exact .inr ⟨g,cap,cur,a,Z0 hB b,c⟩
def Xh(d:Nat):Prop:=∀(s:ByteArray) (n bc k:Nat) (w:World),s.size<=20000->n<=40->k+d=4->CI w bc n->mg w->GB bc ->
  Calls prog 162 #[.pointer (some ⟨bc,0,none⟩),.string s,.int .i64 k] w fun e w'=>Ho (bU d n s.data.toList) d bc w.heap.size e w'/\w.grownBy w' (some bc)
def Hq(O:Option (List (aa)))(d n bc B:Nat)(e:Ending)(w':World):Prop:=
 match O with
 | none=>e=.returned (.tuple #[.slice none 0 0,.iface 25 (.int .i64 3)])
 | some xs=>match dA (bU d) xs n with
  | .error c=>e=.returned (.tuple #[.slice none 0 0,.iface 25 (.int .i64 c)])
  | .ok r=>∃v L,e=.returned (.tuple #[v,.nilIface])/\fD w' B v L/\PVL w' (fun i=>B<=i) d L r.1/\CI w' bc r.2/\L.length<=100001
theorem aV.kept{w w':World}{B bc:Nat}{v:Value}{l:List ByteArray}(h:aV w B v l)(hg:w.grownBy w' (some bc))(hb:bc<B):aV w' B v l:=by
 refine World.ownsRow.kept h hg (.inr fun e=>?_)
 have:=(h.lt bc e).1
 omega
theorem Ch(d:Nat)(ih:Xh d)(s b:ByteArray)(n bc k:Nat)(w:World)(hs:s.size<=20000)(hbs:b.size<=100000)(hn:n<=40)(hk:k+d=4)(hc:CI w bc n)(hG:mg w)(hbc:GB bc):
  Calls prog 223 #[.pointer (some ⟨bc,0,none⟩),.string s,.string b,.int .i64 k] w fun e w'=>Hq (dV b.data.toList s.data.toList) d n bc w.heap.size e w'/\w.grownBy w' (some bc):=by
 obtain⟨O,HO⟩:∃O,Box (O=dV b.data.toList s.data.toList):=⟨_,⟨rfl⟩⟩
 rw[<-HO.o]
 have HG:=Box.m hG
 have HC:=Box.m hc
 have IH:=Box.m ih
 have hbl:=hc.lt
 clear hG hc ih
 go_enter func223,ntmps223
 go_wp2_with fail
 refine(UB s b _ (by omega) hbs HG.o.mx).mono ?_
 rintro e w1 ⟨hP,hb1⟩
 rw[<-HO.o]at hP
 unfold XY at hP
 have hbl1:=ZZ hbl hb1.size
 cases O with
 | none=>
  obtain rfl:=hP
  clear HG HC IH HO
  go_wp2
  go_ret2
  exact⟨rfl,ak hb1 _⟩
 | some xs=>
  obtain⟨v,ss,rfl,hown,hss,hlen⟩:=hP
  have HL:Box (∀x∈ss,x.size<=20000):=⟨fun x hx=>by
   have:=ut _ _ _ HO.o.symm (lst x) (by rw[<-hss];exact ZV hx)
   unfold lst at this
   rw[ae,ae]at this
   omega⟩
  obtain⟨R,HR⟩:∃R,Box (R=dA (bU d) xs n):=⟨_,⟨rfl⟩⟩
  have HA:Box (xk (bU d) (ss.map lst) R 0 n []):=⟨by rw[HR.o,hss];exact FH _ _ _⟩
  have HG1:=Box.m (HG.o.below hb1 (hbc.mono (by omega)))
  have HC1:=Box.m (HC.o.below hb1 hbl)
  have HS:=Box.m hss
  clear hss HG HC HO
  obtain⟨A,m,cap,hv⟩:∃A m cap,v=.slice A m cap:=by
   rcases hown.shape with⟨rfl,_⟩|⟨g,cap,rfl,_⟩
   ·exact⟨_,_,_,rfl⟩
   ·exact⟨_,_,_,rfl⟩
  subst hv
  have hm:m=ss.length:=by
   rcases hown.shape with⟨h1,h2⟩|⟨g,cap,h1,_⟩
   ·simp only[Value.slice.injEq]at h1;rw[h2];exact h1.2.1
   ·simp only[Value.slice.injEq]at h1;exact h1.2.1
  have hm1:m<=ss.length:=Z5 hm
  have hm2:ss.length<=m:=Z5 hm.symm
  have HOwn:=Box.m hown
  clear hm hown
  go_wp2
  go_loopw [12,28] (fun v i wr=>∃(j c:Nat) (L:List P4) (acc:List PT),j<=m/\i=.int .i64 j/\L.length<=j/\c<=40/\Box (fD wr w1.heap.size v L)/\Box (PVL wr (fun i=>w1.heap.size<=i/\some i≠v.ownBlock) d L acc)/\Box (CI wr bc c)/\w1.grownBy wr (some bc)/\Box (xk (bU d) (ss.map lst) R j c acc)) (fun _ i _=>m - (intOf i).toNat)
  case atStart=>exact⟨0,n,[],[],Nat.zero_le _,rfl,Z6 _,hn,⟨fD.nil _ _⟩,⟨PVL.nil _ _ _⟩,HC1,ak ag _,HA⟩
  case round=>
   obtain⟨j,c,L,acc,hj,rfl,hLj,hc40,hP,hV,hC,hg,HI⟩:=hrel
   have hsz:=hg.size
   by_cases hlt:j<m
   ·have hjl:j<ss.length:=by omega
    obtain⟨x,HXk⟩:∃x,Box (ss[j]?=some x):=⟨_,⟨ZY hjl⟩⟩
    have HXl:Box ((ss.map lst)[j]?=some x.data.toList):=⟨by rw[List.getElem?_map,HXk.o];rfl⟩
    have hxs:=HL.o x (List.mem_of_getElem? HXk.o)
    have hownr:=HOwn.o.kept hg hbl
    obtain⟨g,rfl,hcell⟩:∃g,A=some ⟨g,0,none⟩/\wr.cell? ⟨g,j,none⟩=some (.string x):=by
     rcases hownr.shape with⟨_,h2⟩|⟨g,cap',h1,_,_,_,_,h5⟩
     ·rw[h2]at hjl;exact absurd hjl (by simp)
     ·simp only[Value.slice.injEq]at h1
      refine⟨g,h1.1,?_⟩
      rw[h5 j hjl]
      have:=HXk.o
      rw[ZY hjl]at this
      rw[Option.some.inj this]
    have HGr:=Box.m (HG1.o.gr hg hbc hbl1)
    clear hownr HXk hjl
    go_wp2_with fail
    refine(IH.o x c bc k _ hxs hc40 hk hC.o HGr.o hbc).mono ?_
    rintro e w2 ⟨hR2,hg2⟩
    have hg02:=aO hg hg2
    have hsz2:=hg2.size
    unfold Ho at hR2
    cases hq:bU d c x.data.toList with
    | error z=>
     rw[hq]at hR2
     obtain rfl:=hR2
     have HE:=Box.m (Ob HI.o _ HXl.o z hq)
     clear HI hq HXl hP hV hC IH HL HOwn HS HA HG1 HC1 HGr
     go_wp2
     go_ret2
     refine⟨?_,aO (ak hb1 _) (Vo hg02 _)⟩
     unfold Hq
     simp only
     rw[<-HR.o,HE.o]
     rfl
    | ok q=>
     rw[hq]at hR2
     obtain⟨p4,rfl,hPV,hC2⟩:=hR2
     have HI':=Box.m (TQ HI.o _ HXl.o q hq)
     have hq40:=pO d c _ q hq hc40
     obtain⟨A1,n1,c1,bb,mm,A2,n2,c2,rfl⟩:=hPV.shape
     have HPV:Box (PV w2 (fun i=>w1.heap.size<=i/\some i≠Value.ownBlock u12) d (.slice A1 n1 c1,.string bb,.bool mm,.slice A2 n2 c2) q.1):=⟨PV.mono (fun i _ hi=>⟨Z0 hsz hi,fun e=>by have:=(hP.o.lt i e.symm).2;omega⟩) _ _ _ hPV⟩
     have HC2:=Box.m hC2
     have HP2:=Box.m (hP.o.abv (nQ hg2 (fun i hi e=>by simp at e;omega)))
     have HV2:=Box.m (hV.o.abv (nQ hg2 (fun i hi e=>by simp at e;omega)))
     clear HI hq HXl hP hV hC hPV hC2 hcell HGr
     unfold P4.v
     go_wp2_with (at_builtin;refine Wn _ rfl (.tmp 42) (.tmp 44) rfl w1.heap.size _ L rfl (fD.abv HP2.o (dM ((ag.alloc af _).alloc (by simp) _))) _ _ (.slice A1 n1 c1,.string bb,.bool mm,.slice A2 n2 c2) rfl (by simp) (by simp) (by simp) (by simp) ⟨rfl,rfl,rfl,rfl⟩ (by omega) (by simp;omega) ?_;intro v3 w3 hown3 hg3 hv3)
     go_roundw
     case rel=>
      have hab:Abv (fun i=>w1.heap.size<=i/\some i≠Value.ownBlock u12) w2 w3:=fun i hi hl=>(hg3.block i (by simp;omega) hi.2).trans (((Below.refl w2.heap.size w2).alloc af _ |>.alloc (by simp) _).block i hl)
      refine⟨j+1,q.2,L++[_],acc++[q.1],by omega,by go_num,by simp;omega,hq40,⟨hown3⟩,⟨?_⟩,⟨?_⟩,?_,HI'⟩
      ·refine((HV2.o.snoc _ _ HPV.o).mono (T:=fun i=>(w1.heap.size<=i/\some i≠Value.ownBlock u12)/\i<w2.heap.size) (fun i h1 h2=>⟨h2,h1⟩) |>.abv (fun i hi=>hab i hi.1)).mono ?_
       rintro i _ ⟨⟨h1,h2⟩,h3⟩
       refine⟨h1,fun e=>?_⟩
       rcases hv3 with hv3|hv3
       ·exact h2 (e.trans hv3)
       ·rw[hv3]at e;simp at e;omega
      ·exact(HC2.o.below (Bq w2 _ _) HC2.o.lt).own hg3 (fun e=>by have:=(HP2.o.lt bc e.symm).1;omega)
      ·exact Um (aO hg02 (ak (Bq w2 _ _) _)) hg3 (fun i e=>(HP2.o.lt i e).1)
     case measure=>simp[intOf];omega
   ·have HE:=Box.m (OD HI.o (by rw[VQ];omega))
    clear HI IH HL HOwn HS HA HG1 HC1
    go_wp2
    go_ret2
    refine⟨?_,aO (ak hb1 _) hg⟩
    unfold Hq
    simp only
    rw[<-HR.o,HE.o]
    exact⟨_,L,rfl,FX hP.o hb1.size,hV.o.mono (fun i _ hi=>Z0 hb1.size hi.1),hC.o,by omega⟩
theorem I1(d:Nat)(s:ByteArray)(n bc k:Nat)(w:World)(hn:n<=1000000)(hk:k<=1000000)(hx:40<=n\/4<=k)(hc:CI w bc n):
  Calls prog 162 #[.pointer (some ⟨bc,0,none⟩),.string s,.int .i64 k] w fun e w'=>Ho (.error 4) d bc w.heap.size e w'/\w.grownBy w' (some bc):=by
 have hb0:=aD w iP
 have HC:=Box.m (hc.below hb0 hc.lt)
 clear hc
 go_enter func162,ntmps162
 go_wp2_with fail
 refine(Jd bc n k _ HC.o hn hk hx).mono ?_
 rintro e w1 ⟨rfl,hw1⟩
 obtain rfl:=hw1.symm
 obtain⟨x0,x1,x2,x3,xf⟩:=ic (bG w iP)
 go_wp2
 refine bodyPost_ret (v:=.tuple #[pG,.iface 25 (.int .i64 4)]) (by simp[results,results162,go_sem,x0,x1,x2,x3]) rfl ⟨rfl,?_⟩
 exact ak hb0 _
theorem M4(d:Nat)(ih:Xh d):Xh (d+1):=by
 intro s n bc k w hs hn hk hc hG hbc
 by_cases h40:40<=n
 ·have e:bU (d+1) n s.data.toList=.error 4:=by rw[bU,if_pos h40]
  rw[e]
  exact I1 _ s n bc k w (by omega) (by omega) (.inl h40) hc
 have hb0:=aD w iP
 have hbl:=hc.lt
 have HC:=Box.m (hc.below hb0 hc.lt)
 have HG:=Box.m (hG.below hb0 (hbc.mono (by omega)))
 have IH:=Box.m ih
 obtain⟨O,HO⟩:∃O,Box (O=bU (d+1) n s.data.toList):=⟨_,⟨rfl⟩⟩
 rw[<-HO.o]
 have HO1:Box (O=match iA s.data.toList with
  | .error e=>.error e
  | .ok h=>match aS h.1 with
   | .error e=>.error e
   | .ok none=>match eX h.1 h.2 with
    | .error e=>.error e
    | .ok b=>.ok (.mk h.1 b false [],n+1)
   | .ok (some b)=>match dV b h.2 with
    | none=>.error 3
    | some xs=>match dA (bU d) xs (n+1)with
     | .error e=>.error e
     | .ok r=>.ok (.mk h.1 [] true r.1,r.2)):=⟨by rw[HO.o,bU,if_neg h40];rfl⟩
 clear hc hG ih HO
 go_enter func162,ntmps162
 go_wp2_with fail
 refine(uU bc n k _ HC.o h40 (by omega)).mono ?_
 rintro e w1 ⟨rfl,hC1,hg1⟩
 have hg01:=aO (ak hb0 (some bc)) hg1
 have hsz1:=hg1.size
 rw[iC]at hsz1
 have hk1:w1.heap[w.heap.size]?=some iP:=(hg1.block w.heap.size (by simp) (by simp;omega)).trans (bG w iP)
 have HC1:=Box.m hC1
 have HG1:=Box.m (HG.o.gr hg1 hbc (by simp;omega))
 clear HC HG hC1 hg1
 go_wp2_with fail
 refine(Ep s _ (by omega) HG1.o.mx HG1.o.et).mono ?_
 rintro e w2 ⟨hP,hb2⟩
 have hg02:=aO hg01 (ak hb2 _)
 have hsz2:=hb2.size
 have hk2:w2.heap[w.heap.size]?=some iP:=(hb2.block w.heap.size (by omega)).trans hk1
 have HC2:=Box.m (HC1.o.below hb2 (by omega))
 have HG2:=Box.m (HG1.o.below hb2 (hbc.mono (by omega)))
 clear HC1 HG1 hk1 hg01
 unfold XT at hP
 cases hh:iA s.data.toList with
 | error c=>
  rw[hh]at hP
  obtain rfl:=hP
  have HO2:Box (O=.error c):=⟨by rw[HO1.o,hh]⟩
  clear HO1 hh
  obtain⟨x0,x1,x2,x3,xf⟩:=ic hk2
  go_wp2
  refine bodyPost_ret (v:=.tuple #[pG,.iface 25 (.int .i64 c)]) (by simp[results,results162,go_sem,x0,x1,x2,x3]) rfl ⟨by rw[HO2.o];rfl,?_⟩
  iterate 4 (refine vO ?_ af _)
  exact hg02
 | ok hd=>
  rw[hh]at hP
  obtain⟨v,rr,lh,rfl,hown,hlh,hrr⟩:=hP
  have hlen:=yz _ _ hh
  have hHalf:=V3 s.data.toList (by rw[ae];omega) hd.1 ⟨hlen.1,hlen.2.1⟩ lh hlh
  have hrs:rr.size<=20000:=by have:=hlen.2.2;rw[<-hrr,ae,ae]at this;omega
  obtain⟨L0,r0⟩:=hd
  simp only at hlh hrr
  subst hlh
  subst hrr
  have HO2:Box (O=match aS (lh.map fl2)with
   | .error e=>.error e
   | .ok none=>match eX (lh.map fl2) rr.data.toList with
    | .error e=>.error e
    | .ok b=>.ok (.mk (lh.map fl2) b false [],n+1)
   | .ok (some b)=>match dV b rr.data.toList with
    | none=>.error 3
    | some xs=>match dA (bU d) xs (n+1)with
     | .error e=>.error e
     | .ok r=>.ok (.mk (lh.map fl2) [] true r.1,r.2)):=⟨by rw[HO1.o,hh]⟩
  have HF:=Box.m hown.flb
  have HH:=Box.m hHalf
  clear HO1 hh hlen hHalf hown
  obtain⟨A,m,cap,hv⟩:∃A m cap,v=.slice A m cap:=by obtain⟨A,cap,hv,_⟩:=HF.o;exact⟨A,_,cap,hv⟩
  subst hv
  go_wp2_with fail
  refine(FM _ lh _ HH.o HF.o.fl HG2.o.mx HG2.o.nm).mono ?_
  rintro e w3 ⟨hE,hb3⟩
  have hg03:=aO hg02 (ak hb3 _)
  have hsz3:=hb3.size
  have hk3:w3.heap[w.heap.size]?=some iP:=(hb3.block w.heap.size (by omega)).trans hk2
  have HC3:=Box.m (HC2.o.below hb3 (by omega))
  have HG3:=Box.m (HG2.o.below hb3 (hbc.mono (by omega)))
  have HF3:=Box.m (HF.o.abv (dM hb3))
  clear HC2 HG2 hk2 hg02 HF
  unfold SX at hE
  cases hm:aS (lh.map fl2)with
  | error c=>
   rw[hm]at hE
   obtain rfl:=hE
   have HO3:Box (O=.error c):=⟨by rw[HO2.o,hm]⟩
   clear HO2 hm
   obtain⟨x0,x1,x2,x3,xf⟩:=ic hk3
   go_wp2
   refine bodyPost_ret (v:=.tuple #[pG,.iface 25 (.int .i64 c)]) (by simp[results,results162,go_sem,x0,x1,x2,x3]) rfl ⟨by rw[HO3.o];rfl,?_⟩
   iterate 4 (refine vO ?_ af _)
   exact hg03
  | ok o=>
   rw[hm]at hE
   cases o with
   | none=>
    simp only at hE
    obtain rfl:=hE
    have HO3:Box (O=match eX (lh.map fl2) rr.data.toList with
     | .error e=>.error e
     | .ok b=>.ok (.mk (lh.map fl2) b false [],n+1)):=⟨by rw[HO2.o,hm]⟩
    clear HO2 hm
    go_wp2_with fail
    refine(D6 _ lh rr _ hrs HH.o HF3.o.fl HG3.o.mx HG3.o.nm).mono ?_
    rintro e w4 ⟨hB,hb4⟩
    have hg04:=aO hg03 (ak hb4 _)
    have hsz4:=hb4.size
    have hk4:w4.heap[w.heap.size]?=some iP:=(hb4.block w.heap.size (by omega)).trans hk3
    have HC4:=Box.m (HC3.o.below hb4 (by omega))
    have HF4:=Box.m (HF3.o.abv (dM hb4))
    obtain⟨x0,x1,x2,x3,xf⟩:=ic hk4
    clear HC3 HG3 hk3 hg03 HF3
    unfold X4 at hB
    cases hdd:eX (lh.map fl2) rr.data.toList with
    | error c=>
     rw[hdd]at hB
     obtain rfl:=hB
     have HO4:Box (O=.error c):=⟨by rw[HO3.o,hdd]⟩
     clear HO3 hdd
     go_wp2
     refine bodyPost_ret (v:=.tuple #[pG,.iface 25 (.int .i64 c)]) (by simp[results,results162,go_sem,x0,x1,x2,x3]) rfl ⟨by rw[HO4.o];rfl,?_⟩
     iterate 4 (refine vO ?_ af _)
     exact hg04
    | ok bd=>
     rw[hdd]at hB
     obtain rfl:=hB
     have HO4:Box (O=.ok (.mk (lh.map fl2) bd false [],n+1)):=⟨by rw[HO3.o,hdd]⟩
     clear HO3 hdd
     obtain⟨bb,HB⟩:∃bb:ByteArray,Box (bb=⟨bd.toArray⟩):=⟨_,⟨rfl⟩⟩
     rw[<-HB.o]
     go_wp2
     refine bodyPost_ret (v:=.tuple #[.agg #[.slice A m cap,.string bb,.bool false,.slice none 0 0],.nilIface]) (by simp[results,results162,go_sem,x0,x1,x2,x3]) rfl ⟨?_,?_⟩
     ·rw[HO4.o]
      refine⟨(.slice A m cap,.string bb,.bool false,.slice none 0 0),rfl,?_,?_⟩
      ·refine PV.mono (S:=fun i=>w.heap.size<i) (fun i _ hi=>Z4 hi) _ _ _ (PV.abv (w:=w4) ?_ (d+1) _ _ ⟨none,0,bb,lh,rfl,rfl,rfl,HF4.o.mono (fun i _ hi=>by show w.heap.size<i;have:w1.heap.size<=i:=hi;omega),rfl,HH.o,by rw[HB.o],Z6 _,by simp,fun k hk=>absurd hk (by simp)⟩)
       refine nQ (r:=some w.heap.size) ?_ (fun i hi e=>by simp at e;omega)
       iterate 4 (refine aO ?_ (iT _ _ _ _))
       exact ak ag _
      ·refine HC4.o.own (r:=some w.heap.size) ?_ (by simp;omega)
       iterate 4 (refine aO ?_ (iT _ _ _ _))
       exact ak ag _
     ·iterate 4 (refine vO ?_ af _)
      exact hg04
   | some be=>
    simp only at hE
    obtain⟨bb,rfl,hbe,hne,hbs⟩:=hE
    have he:=bN bb hne
    have HO3:Box (O=match dV bb.data.toList rr.data.toList with
     | none=>.error 3
     | some xs=>match dA (bU d) xs (n+1)with
      | .error e=>.error e
      | .ok r=>.ok (.mk (lh.map fl2) [] true r.1,r.2)):=⟨by rw[HO2.o,hm,hbe]⟩
    clear HO2 hm hbe
    go_wp2_with fail
    refine(Ch d IH.o rr bb (n+1) bc (k+1) _ hrs (by omega) (by omega) (by omega) HC3.o HG3.o hbc).mono ?_
    rintro e w4 ⟨hB,hg4⟩
    have hg04:=aO hg03 hg4
    have hsz4:=hg4.size
    have hk4:w4.heap[w.heap.size]?=some iP:=(hg4.block w.heap.size (by omega) (by simp;omega)).trans hk3
    have HF4:=Box.m (HF3.o.abv (nQ hg4 (fun i hi e=>by simp at e;omega)))
    obtain⟨x0,x1,x2,x3,xf⟩:=ic hk4
    clear HC3 HG3 hk3 hg03 HF3
    unfold Hq at hB
    cases hdd:dV bb.data.toList rr.data.toList with
    | none=>
     rw[hdd]at hB
     obtain rfl:=hB
     have HO4:Box (O=.error 3):=⟨by rw[HO3.o,hdd]⟩
     clear HO3 hdd
     go_wp2
     refine bodyPost_ret (v:=.tuple #[pG,.iface 25 (.int .i64 3)]) (by simp[results,results162,go_sem,x0,x1,x2,x3]) rfl ⟨by rw[HO4.o];rfl,?_⟩
     iterate 4 (refine vO ?_ af _)
     exact hg04
    | some xs=>
     rw[hdd]at hB
     simp only at hB
     have HO4:Box (O=match dA (bU d) xs (n+1)with
      | .error e=>.error e
      | .ok r=>.ok (.mk (lh.map fl2) [] true r.1,r.2)):=⟨by rw[HO3.o,hdd]⟩
     clear HO3 hdd
     cases hall:dA (bU d) xs (n+1)with
     | error c=>
      rw[hall]at hB
      obtain rfl:=hB
      have HO5:Box (O=.error c):=⟨by rw[HO4.o,hall]⟩
      clear HO4 hall
      go_wp2
      refine bodyPost_ret (v:=.tuple #[pG,.iface 25 (.int .i64 c)]) (by simp[results,results162,go_sem,x0,x1,x2,x3]) rfl ⟨by rw[HO5.o];rfl,?_⟩
      iterate 4 (refine vO ?_ af _)
      exact hg04
     | ok r=>
      rw[hall]at hB
      obtain⟨vp,LP,rfl,hownP,hPVL,hC4,hLP⟩:=hB
      have HO5:Box (O=.ok (.mk (lh.map fl2) [] true r.1,r.2)):=⟨by rw[HO4.o,hall]⟩
      obtain⟨A2,cap2,hvp,hcap2,hpc⟩:=hownP.pc
      have hblk:∀i,some i=vp.ownBlock->w3.heap.size<=i:=fun i e=>(hownP.lt i e.symm).1
      have HP4:Box (PV w4 (fun i=>w.heap.size<i) (d+1) (.slice A m cap,.string ⟨#[]⟩,.bool true,.slice A2 LP.length cap2) (.mk (lh.map fl2) [] true r.1)):=⟨by
       have hl:LP.length=r.1.length:=hPVL.1
       refine⟨A2,cap2,⟨#[]⟩,lh,rfl,rfl,by rw[hl],HF4.o.mono (fun i _ hi=>by show w.heap.size<i;have:w1.heap.size<=i:=hi;omega),rfl,HH.o,rfl,by omega,by omega,fun j hj=>⟨LP[j]'(by omega),(hpc j (by omega)).mono (fun i _ e=>by have:=hblk i e;omega),PV.mono (fun i _ hi=>by show w.heap.size<i;have:w3.heap.size<=i:=hi;omega) _ _ _ (hPVL.2 j (by omega) hj)⟩⟩⟩
      have HC4:=Box.m hC4
      subst hvp
      clear HO4 hall hownP hPVL hpc hblk hC4
      go_wp2
      refine bodyPost_ret (v:=.tuple #[.agg #[.slice A m cap,.string ⟨#[]⟩,.bool true,.slice A2 LP.length cap2],.nilIface]) (by simp[results,results162,go_sem,x0,x1,x2,x3]) rfl ⟨?_,?_⟩
      ·rw[HO5.o]
       refine⟨(.slice A m cap,.string ⟨#[]⟩,.bool true,.slice A2 LP.length cap2),rfl,?_,?_⟩
       ·refine PV.mono (S:=fun i=>w.heap.size<i) (fun i _ hi=>Z4 hi) _ _ _ (PV.abv (w:=w4) ?_ (d+1) _ _ HP4.o)
        refine nQ (r:=some w.heap.size) ?_ (fun i hi e=>by simp at e;omega)
        iterate 4 (refine aO ?_ (iT _ _ _ _))
        exact ak ag _
       ·refine HC4.o.own (r:=some w.heap.size) ?_ (by simp;omega)
        iterate 4 (refine aO ?_ (iT _ _ _ _))
        exact ak ag _
      ·iterate 4 (refine vO ?_ af _)
       exact hg04
theorem FI:∀d,Xh d
 | 0=>fun s n bc k w hs hn hk hc hG hbc=>by
  have e:bU 0 n s.data.toList=.error 4:=rfl
  rw[e]
  exact I1 _ s n bc k w (by omega) (by omega) (.inr (by omega)) hc
 | d+1=>M4 d (FI d)
theorem X9{w:World}{b n:Nat}{t:TypeId}(h:w.heap[b]?=some (.cells #[.int .i64 n] t (0,0))):CI w b n:=
 ⟨by simp[World.cell?,h],by simp[World.frozen?,h],(Array.getElem?_eq_some_iff.1 h).1⟩
def gB(s:aa):Except Nat PT:=if 20000<s.length then .error 4 else match bU 4 0 s with | .error c=>.error c | .ok q=>.ok q.1
def Y9(O:Except Nat PT)(B:Nat)(e:Ending)(w':World):Prop:=
 match O with
 | .error c=>e=.returned (.tuple #[pG,.iface 25 (.int .i64 c)])
 | .ok p=>∃v:P4,e=.returned (.tuple #[v.v,.nilIface])/\PV w' (fun i=>B<=i) 4 v p
theorem Hw(s:ByteArray)(w:World)(hs:s.size<=1000000)(hG:mg w):
  Calls prog 96 #[.string s] w fun e w'=>Y9 (gB s.data.toList) w.heap.size e w'/\Below w.heap.size w w':=by
 by_cases h2:20000<s.size
 ·have e:gB s.data.toList=.error 4:=by unfold gB;rw[ae,if_pos h2]
  rw[e]
  have hb0:=aD w iP
  obtain⟨x0,x1,x2,x3,xf⟩:=ic (bG w iP)
  clear hG e
  go_enter func96,ntmps96
  go_wp2
  refine bodyPost_ret (v:=.tuple #[pG,.iface 25 (.int .i64 4)]) (by simp[results,results96,go_sem,x0,x1,x2,x3]) rfl ⟨rfl,?_⟩
  exact hb0
 ·have hb0:=aD w iP
  have hb1:=(aD (w.alloc iP) (.cells #[.int .i64 0] 179))
  have hC:CI ((w.alloc iP).alloc (.cells #[.int .i64 0] 179)) (w.heap.size+1) 0:=by
   have hh:=bG (w.alloc iP) (.cells #[.int .i64 0] 179)
   rw[iC]at hh
   exact X9 hh
  have HC:=Box.m hC
  have hgb:=hG.gb
  have HG:=Box.m ((hG.below hb0 hgb).below hb1 (hgb.mono (by simp)))
  have hk0:((w.alloc iP).alloc (.cells #[.int .i64 0] 179)).heap[w.heap.size]?=some iP:=(Below.heap_alloc (w.alloc iP) _ w.heap.size (by simp)).trans (bG w iP)
  obtain⟨O,HO⟩:∃O,Box (O=gB s.data.toList):=⟨_,⟨rfl⟩⟩
  rw[<-HO.o]
  have HO1:Box (O=match bU 4 0 s.data.toList with | .error c=>.error c | .ok q=>.ok q.1):=⟨by rw[HO.o];unfold gB;rw[ae,if_neg h2]⟩
  clear hC hG HO
  go_enter func96,ntmps96
  go_wp2_with fail
  refine(FI 4 s 0 (w.heap.size+1) 0 _ (by omega) (by omega) (by omega) HC.o HG.o (hgb.mono (by omega))).mono ?_
  rintro e w1 ⟨hR,hg1⟩
  have hsz1:=hg1.size
  have hbb:Below w.heap.size w w1:=hb0.trans ((hb1.mono (by simp)).trans (iX hg1 (by omega) (by simp)))
  obtain⟨x0,x1,x2,x3,xf⟩:=ic ((hg1.block w.heap.size (by simp;omega) (by simp)).trans hk0)
  clear HC HG hk0 hb1
  unfold Ho at hR
  cases hq:bU 4 0 s.data.toList with
  | error c=>
   rw[hq]at hR
   obtain rfl:=hR
   have HO2:Box (O=.error c):=⟨by rw[HO1.o,hq]⟩
   clear HO1 hq
   go_wp2
   refine bodyPost_ret (v:=.tuple #[pG,.iface 25 (.int .i64 c)]) (by simp[results,results96,go_sem,x0,x1,x2,x3]) rfl ⟨by rw[HO2.o];rfl,?_⟩
   iterate 4 (refine Below.setCell ?_ (by simp) _)
   exact hbb
  | ok q=>
   rw[hq]at hR
   obtain⟨p4,rfl,hPV,_⟩:=hR
   have HO2:Box (O=.ok q.1):=⟨by rw[HO1.o,hq]⟩
   obtain⟨A1,n1,c1,bb,mm,A2,n2,c2,rfl⟩:=hPV.shape
   have HPV:=Box.m hPV
   clear HO1 hq hPV
   unfold P4.v
   go_wp2
   refine bodyPost_ret (v:=.tuple #[.agg #[.slice A1 n1 c1,.string bb,.bool mm,.slice A2 n2 c2],.nilIface]) (by simp[results,results96,go_sem,x0,x1,x2,x3]) rfl ⟨?_,?_⟩
   ·rw[HO2.o]
    refine⟨(.slice A1 n1 c1,.string bb,.bool mm,.slice A2 n2 c2),rfl,?_⟩
    refine PV.mono (S:=fun i=>w.heap.size<i) (fun i _ hi=>Z4 hi) _ _ _ (PV.abv (w:=w1) ?_ 4 _ _ (PV.mono (fun i _ hi=>?_) _ _ _ HPV.o))
    ·refine nQ (r:=some w.heap.size) ?_ (fun i hi e=>by simp at e;omega)
     iterate 4 (refine aO ?_ (iT _ _ _ _))
     exact ak ag _
    ·have:((w.alloc iP).alloc (.cells #[.int .i64 0] 179)).heap.size<=i:=hi
     simp at this
     show w.heap.size<i
     omega
   ·iterate 4 (refine Below.setCell ?_ (by simp) _)
    exact hbb
end Go.Proofs.YtkldkhdigkpniaaGreatDoor
