import Derived.Test.YtkldkhdigkpniaaGreatDoorZ24
import Derived.Lib.Replace
set_option maxHeartbeats 2000000
set_option maxRecDepth 100000
open List renaming take_of_length_le → GL, all_cons → VQ
namespace Go.Proofs.YtkldkhdigkpniaaGreatDoor
open Go.RowKit Go.Proofs.Tryz
def mZ(x:Nat):Bool:=decide (x≠9)&&(decide (x<32)||decide (126<x))
def asC(c:UInt8):Bool:=!mZ c.toNat
theorem Vu:asC=fun c=>inC c||c==9:=by
 funext c
 have key:∀n:Fin 256,asC (UInt8.ofNat n.val)=(inC (UInt8.ofNat n.val)||UInt8.ofNat n.val==9):=by decide +kernel
 have:=key ⟨c.toNat,c.toNat_lt⟩
 simpa using this
theorem QR(p:Nat->Bool)(hp:∀x,128<=x->p x=true)(s:ByteArray):∀f k:Nat,s.size<=k+f->k<=s.size->(s.data.toList.take k).all (fun c=>!p c.toNat)=true ->
  decide (0<=Lib.idxFuncFrom p true s f k)=!(s.data.toList.all fun c=>!p c.toNat):=by
 intro f
 induction f with
 | zero=>
  intro k hf hk ha
  have hks:¬k<s.size:=by omega
  rw[GL (by rw[ae];omega)]at ha
  rw[Lib.idxFuncFrom_end _ _ _ _ _ hks,ha];rfl
 | succ f ih=>
  intro k hf hk ha
  by_cases hks:k<s.size
  ·cases hw:p s[k].toNat
   ·have hlow:s[k].toNat<128:=by
     by_cases h:s[k].toNat<128
     ·exact h
     ·rw[hp _ (by omega)]at hw;cases hw
    unfold Lib.idxFuncFrom
    rw[if_pos hks,rf s k hks hlow]
    simp only
    rw[if_neg (by rw[hw];decide)]
    exact ih (k+1) (by omega) (by omega) (sV (p:=fun c=>!p c.toNat) s k hks ha (by rw[hw];rfl))
   ·have hd:p (Utf8.decode s k).1=true:=by
     by_cases hlow:s[k].toNat<128
     ·rw[rf s k hks hlow];exact hw
     ·exact hp _ (zU s k hks hlow)
    have hall:(s.data.toList.all fun c=>!p c.toNat)=false:=by
     rw[<-Bool.not_eq_true,List.all_eq_true]
     intro h
     have hk':k<s.data.toList.length:=by rw[ae];exact hks
     have:=h s.data.toList[k] (List.getElem_mem hk')
     have e:s.data.toList[k]=s[k]:=rfl
     rw[e,hw]at this
     cases this
    unfold Lib.idxFuncFrom
    rw[if_pos hks,if_pos hd,hall]
    simp
  ·rw[GL (by rw[ae];omega)]at ha
   rw[Lib.idxFuncFrom_end _ _ _ _ _ hks,ha];rfl
theorem ZT(p:Nat->Bool)(hp:∀x,128<=x->p x=true)(s:ByteArray):decide (0<=Lib.idxFunc p true s)=!(s.data.toList.all fun c=>!p c.toNat):=
 QR p hp s s.size 0 (by omega) (Nat.zero_le _) rfl
theorem sK:∀(f:Nat) (l:aa),l.length<f->Lib.replaceK [13,10] [] (Lib.count l [13,10]) l=(bK l).flatten
 | 0,l,h=>by omega
 | f+1,l,h=>by
  rcases Lib.index_spec l [13,10]with⟨h1,_⟩|⟨i,h1,hi,_⟩
  ·rw[Lib.count_miss h1,(qj l).1 h1]
   simp[Lib.replaceK]
  ·have hr:=Lib.index_room l [13,10] (by omega)
   rw[h1]at hr
   simp at hr
   rw[Lib.count_hit (by simp) h1,Nat.add_comm,Lib.replaceK_hit _ _ _ _ i h1,(qj l).2 i h1]
   simp only[List.length_cons,List.length_nil]
   rw[sK f (l.drop (i+2)) (by rw[List.length_drop];omega)]
   simp
theorem EA(l:aa):Lib.replaceAll l [13,10] []=(bK l).flatten:=by
 unfold Lib.replaceAll Lib.replace
 rw[if_neg (by decide)]
 unfold Lib.replaceNum
 rw[if_pos (by left;omega)]
 exact sK _ l (Nat.lt_succ_self _)
theorem vS:∀l:aa,vo l=(bK l).flatten.all asC
 | []=>rfl
 | [c]=>by
  rw[Vu]
  simp[vo,bK]
 | c::d::t=>by
  unfold vo
  by_cases h:c=13/\d=10
  ·rw[if_pos h,h.1,h.2,Lt,vS t];rfl
  ·rw[if_neg h,Km c d t h,vS (d::t)]
   have e:(nP c (bK (d::t))).flatten=c::(bK (d::t)).flatten:=by
    have:=qc (d::t)
    cases hs:bK (d::t)with
    | nil=>exact absurd hs this
    | cons x r=>rfl
   rw[e,VQ,Vu]
theorem G5(args:Array Value)(w:World):(callFunc 267 args).run prog w=.ok (.enter 267 args) w:=by simp[go_sem]
theorem ML(x:Nat)(w:World)(hx:x<=1114111):
  Calls prog 267 #[.int .i32 (x:Int)] w fun e w'=>e=.returned (.bool (mZ x))/\w'=w:=by
 obtain⟨R,HR⟩:∃R,Box (R=mZ x):=⟨_,⟨rfl⟩⟩
 rw[<-HR.o]
 by_cases h9:x=9
 ·subst h9
  have HE:Box (R=false):=⟨HR.o⟩
  clear HR
  go_enter func267,ntmps267
  go_wp2
  go_ret
  exact⟨by rw[HE.o];rfl,rfl⟩
 ·have h9':((x:Int) != 9)=true:=by rw[bne_iff_ne];omega
  by_cases h1:x<32
  ·have HE:Box (R=true):=⟨by rw[HR.o,mZ,decide_eq_true h9,decide_eq_true h1];rfl⟩
   clear HR
   go_enter func267,ntmps267
   go_wp2
   go_ret
   exact⟨by rw[HE.o];first|rfl|(show Ending.returned (Value.bool ((x:Int) != 9))=_;rw[h9']),rfl⟩
  ·have d1:decide ((x:Int)<32)=false:=by rw[decide_eq_false_iff_not];omega
   by_cases h2:126<x
   ·have HE:Box (R=true):=⟨by rw[HR.o,mZ,decide_eq_true h9,decide_eq_true h2];simp⟩
    have d2:decide (126<(x:Int))=true:=by rw[decide_eq_true_eq];omega
    clear HR
    go_enter func267,ntmps267
    go_wp2
    go_ret
    exact⟨by rw[HE.o];first|rfl|(show Ending.returned (Value.bool ((x:Int) != 9&&(decide ((x:Int)<32)||decide (126<(x:Int)))))=_;rw[h9',d1,d2];rfl),rfl⟩
   ·have HE:Box (R=false):=⟨by rw[HR.o,mZ,decide_eq_false h1,decide_eq_false h2];simp⟩
    have d2:decide (126<(x:Int))=false:=by rw[decide_eq_false_iff_not];omega
    clear HR
    go_enter func267,ntmps267
    go_wp2
    go_ret
    exact⟨by rw[HE.o];first|rfl|(show Ending.returned (Value.bool ((x:Int) != 9&&(decide ((x:Int)<32)||decide (126<(x:Int)))))=_;rw[h9',d1,d2];rfl),rfl⟩
theorem MH(w:World):PredGrows prog 267 #[] mZ w:=by
 intro W x hx hb
 refine(ML x W hx).mono ?_
 rintro e w' ⟨rfl,rfl⟩
 exact⟨rfl,Below.refl _ _⟩
theorem DV(s:ByteArray)(w:World):
  Calls prog 266 #[.string s,.func (.func 267) #[] #[]] w fun e w'=>e=.returned (.bool (!(s.data.toList.all asC)))/\Below w.heap.size w w':=by
 have hi:=Jt 267 #[] G5 mZ s w (MH w)
 have HD:=Box.m (ZT mZ (fun x hx=>by unfold mZ;rw[decide_eq_true (by omega),decide_eq_true (show 126<x by omega)];simp) s)
 obtain⟨z,hz⟩:∃z,z=Lib.idxFunc mZ true s:=⟨_,rfl⟩
 rw[<-hz]at hi HD
 clear hz
 obtain⟨R,HR⟩:∃R,Box (R=!(s.data.toList.all asC)):=⟨_,⟨rfl⟩⟩
 rw[<-HR.o]
 have HE:Box (R=decide (0<=z)):=⟨by rw[HR.o,HD.o];rfl⟩
 clear HR HD
 go_enter func266,ntmps266
 go_wp2_with (go_at_call 155;refine hi.mono ?_;rintro e w' ⟨rfl,hb⟩)
 go_ret
 exact⟨by rw[HE.o];rfl,hb⟩
theorem PQ(s:ByteArray)(w:World)(hs:s.size<=100000)(hm:Max w):
  Calls prog 242 #[.string s] w fun e w'=>e=.returned (.bool (vo s.data.toList))/\Below w.heap.size w w':=by
 obtain⟨_,m,hmc⟩:=hm
 have hrep:=Tryz.strings_ReplaceAll s ⟨#[13,10]⟩ ⟨#[]⟩ m w (by omega) hmc (by decide) (by rw[show(⟨#[]⟩:ByteArray).size=0 from rfl];omega)
 rw[show(⟨#[13,10]⟩:ByteArray).data.toList=[13,10]from rfl,show(⟨#[]⟩:ByteArray).data.toList=[]from rfl,EA]at hrep
 obtain⟨t,HT⟩:∃t:ByteArray,Box (t=⟨((bK s.data.toList).flatten).toArray⟩):=⟨_,⟨rfl⟩⟩
 rw[<-HT.o]at hrep
 obtain⟨R,HR⟩:∃R,Box (R=t.data.toList.all asC):=⟨_,⟨rfl⟩⟩
 have HA:Box (vo s.data.toList=R):=⟨by rw[vS,HR.o,HT.o]⟩
 rw[HA.o]
 clear HA HT hmc
 go_enter func242,ntmps242
 go_wp2_with fail
 refine hrep.mono ?_
 rintro e w1 ⟨rfl,hb1⟩
 go_wp2_with fail
 refine(DV t _).mono ?_
 rintro e w2 ⟨rfl,hb2⟩
 rw[<-HR.o]
 go_wp2
 go_ret
 exact⟨by first|rfl|(show Ending.returned (Value.bool (!(!R)))=_;rw[Bool.not_not]),hb1.trans (hb2.mono hb1.size)⟩
def nT(b:aa):aa×aa:=if vo b then (KN,b) else if (Tx.packS b).length<(Tx.quoteS b).length then (D8,Tx.packS b) else (qpN,Tx.quoteS b)
theorem Mi(s:ByteArray)(w:World)(hs:s.size<=100000)(hm:Max w):
  Calls prog 199 #[.string s] w fun e w'=>e=.returned (.tuple #[.string ⟨(nT s.data.toList).1.toArray⟩,.string ⟨(nT s.data.toList).2.toArray⟩])/\Below w.heap.size w w':=by
 obtain⟨U,HU⟩:∃U,Box (U=nT s.data.toList):=⟨_,⟨rfl⟩⟩
 rw[<-HU.o]
 have HM:=Box.m hm
 clear hm
 go_enter func199,ntmps199
 go_wp2_with fail
 refine(PQ s _ (by omega) HM.o).mono ?_
 rintro e w1 ⟨rfl,hb1⟩
 clear HM
 cases ha:vo s.data.toList
 ·obtain⟨Q,HQ⟩:∃Q:ByteArray,Box (Q=⟨(Tx.quoteS s.data.toList).toArray⟩):=⟨_,⟨rfl⟩⟩
  obtain⟨P,HP⟩:∃P:ByteArray,Box (P=⟨(Tx.packS s.data.toList).toArray⟩):=⟨_,⟨rfl⟩⟩
  have hqs:Q.size=(Tx.quoteS s.data.toList).length:=by rw[HQ.o,gm]
  have hps:P.size=(Tx.packS s.data.toList).length:=by rw[HP.o,gm]
  have HU1:Box (U=if P.size<Q.size then (D8,Tx.packS s.data.toList) else (qpN,Tx.quoteS s.data.toList)):=⟨by rw[HU.o,nT,ha,hqs,hps];rfl⟩
  clear ha HU hqs hps
  go_wp2_with fail
  refine(Tx.quote_any s _ hs).mono ?_
  rintro e w2 ⟨rfl,hb2⟩
  rw[<-HQ.o]
  go_wp2_with fail
  refine(Tx.pack_any s _ hs).mono ?_
  rintro e w3 ⟨rfl,hb3⟩
  rw[<-HP.o]
  have hb03:=hb1.trans ((hb2.trans (hb3.mono hb2.size)).mono hb1.size)
  by_cases hl:P.size<Q.size
  ·have HE:Box ((⟨U.1.toArray⟩:ByteArray)=⟨#[98,97,115,101,54,52]⟩/\(⟨U.2.toArray⟩:ByteArray)=P):=⟨by rw[HU1.o,if_pos hl,HP.o];exact⟨rfl,rfl⟩⟩
   clear HU1 HQ HP
   go_wp2
   go_ret2
   exact⟨by rw[HE.o.1,HE.o.2];rfl,hb03⟩
  ·have HE:Box ((⟨U.1.toArray⟩:ByteArray)=⟨#[113,117,111,116,101,100,45,112,114,105,110,116,97,98,108,101]⟩/\(⟨U.2.toArray⟩:ByteArray)=Q):=⟨by rw[HU1.o,if_neg hl,HQ.o];exact⟨rfl,rfl⟩⟩
   have hl':Q.size<=P.size:=by omega
   clear HU1 HQ HP
   go_wp2
   go_ret2
   exact⟨by rw[HE.o.1,HE.o.2];rfl,hb03⟩
 ·have HE:Box ((⟨U.1.toArray⟩:ByteArray)=⟨#[55,98,105,116]⟩/\(⟨U.2.toArray⟩:ByteArray)=s):=⟨by rw[HU.o,nT,ha];exact⟨rfl,yh s⟩⟩
  clear HU ha
  go_wp2
  go_ret2
  exact⟨by rw[HE.o.1,HE.o.2];rfl,hb1⟩
def xg(L:List PB)(b:aa)(many:Bool)(n:Nat):Bool:=L.all dZ&&match aS L with
 | .error _=>false
 | .ok o=>(o.isSome==many)&&(if many then b.isEmpty else n==0)
theorem oG(lh:List Fl):(lh.map fl2).all dZ=decide (iE lh=lh.length):=by
 have e:iE lh=aM eB lh:=rfl
 rw[e]
 induction lh with
 | nil=>rfl
 | cons f L ih=>
  unfold aM at ih ⊢
  have hf:dZ (fl2 f)=eB f:=rfl
  rw[List.map_cons,VQ,ih rfl,List.takeWhile_cons,hf]
  cases eB f with
  | false=>simp
  | true=>simp
theorem yA(A0:Option Addr)(n0 c0:Nat)(bb:ByteArray)(many:Bool)(A3:Option Addr)(n3 c3:Nat)(lh:List Fl)(w:World)(hH:uW lh)(hF:FL w (.slice A0 n0 c0) lh)(hm:Max w)(hN:j6 w)(hn3:n3<=1000000):
  Calls prog 197 #[.agg #[.slice A0 n0 c0,.string bb,.bool many,.slice A3 n3 c3]] w fun e w'=>e=.returned (.bool (xg (lh.map fl2) bb.data.toList many n3))/\Below w.heap.size w w':=by
 obtain⟨R,HR⟩:∃R,Box (R=xg (lh.map fl2) bb.data.toList many n3):=⟨_,⟨rfl⟩⟩
 rw[<-HR.o]
 have hb0:=aD w (jr (.slice A0 n0 c0) (.string bb) (.bool many) (.slice A3 n3 c3))
 have hk0:=bG w (jr (.slice A0 n0 c0) (.string bb) (.bool many) (.slice A3 n3 c3))
 have HF:=Box.m (hF.below hb0 af)
 have HM:=Box.m (hm.below hb0 hm.1)
 have HN:=Box.m (hN.below hb0 hN.lt)
 have HH:=Box.m hH
 have hmx:=hm.1
 have hnx:=hN.lt
 clear hF hm hN hH
 go_enter func197,ntmps197
 go_wp2_with fail
 refine(Q9 _ lh _ HH.o.tiny HF.o).mono ?_
 rintro e w1 ⟨rfl,hb1⟩
 have hb01:=hb0.trans (hb1.mono hb0.size)
 have hsz0:w.heap.size<w1.heap.size:=by have:=hb1.size;rw[iC]at this;omega
 by_cases hr:iE lh=lh.length
 ·have hrd:decide (iE lh=lh.length)=true:=decide_eq_true hr
  have HR1:Box (R=match aS (lh.map fl2)with
   | .error _=>false
   | .ok o=>(o.isSome==many)&&(if many then bb.data.toList.isEmpty else n3==0)):=⟨by rw[HR.o,xg,oG,hrd,Bool.true_and]⟩
  rw[hrd]
  have hk1:=(hb1.block w.heap.size (by simp)).trans hk0
  obtain⟨x0,x1,x2,x3,xf⟩:=ic hk1
  have HF1:=Box.m (HF.o.below hb1 af)
  have HM1:=Box.m (HM.o.below hb1 (by rw[iC];omega))
  have HN1:=Box.m (HN.o.below hb1 (by rw[iC];omega))
  clear HR hr hrd HF HM HN hk0
  go_wp2_with fail
  refine(FM _ lh _ HH.o HF1.o HM1.o HN1.o).mono ?_
  rintro e w2 ⟨hE,hb2⟩
  have hb02:=hb01.trans (hb2.mono hb01.size)
  clear x0 x1 x2 x3 xf
  obtain⟨x0,x1,x2,x3,xf⟩:=ic ((hb2.block w.heap.size hsz0).trans hk1)
  clear HF1 HM1 HN1 HH hk1
  unfold SX at hE
  cases hms:aS (lh.map fl2)with
  | error c=>
   rw[hms]at hE
   obtain rfl:=hE
   have HR2:Box (R=false):=⟨by rw[HR1.o,hms]⟩
   clear HR1 hms
   go_wp2
   go_ret
   exact⟨by rw[HR2.o];rfl,hb02⟩
  | ok o=>
   rw[hms]at hE
   cases o with
   | none=>
    obtain rfl:=hE
    cases many
    ·have HR2:Box (R=(n3==0)):=⟨by rw[HR1.o,hms];rfl⟩
     clear HR1 hms
     by_cases h3:n3=0
     ·subst h3
      go_wp2
      go_ret
      exact⟨by rw[HR2.o];rfl,hb02⟩
     ·have h3':((n3:Int)==0)=false:=by rw[beq_eq_false_iff_ne];omega
      have HR3:Box (R=false):=⟨by rw[HR2.o,beq_eq_false_iff_ne];exact h3⟩
      clear HR2
      go_wp2
      go_ret
      exact⟨by rw[HR3.o];first|rfl|(show Ending.returned (Value.bool ((n3:Int)==0))=_;rw[h3']),hb02⟩
    ·have HR2:Box (R=false):=⟨by rw[HR1.o,hms];rfl⟩
     clear HR1 hms
     go_wp2
     go_ret
     exact⟨by rw[HR2.o];rfl,hb02⟩
   | some be=>
    obtain⟨be',rfl,_,hne,_⟩:=hE
    have he:=bN be' hne
    cases many
    ·have HR2:Box (R=false):=⟨by rw[HR1.o,hms];rfl⟩
     clear HR1 hms
     go_wp2
     go_ret
     exact⟨by rw[HR2.o];rfl,hb02⟩
    ·have HR2:Box (R=bb.toList.isEmpty):=⟨by rw[HR1.o,hms,ByteArray.toList_eq];rfl⟩
     clear HR1 hms
     go_wp2
     go_ret
     exact⟨by rw[HR2.o];rfl,hb02⟩
 ·have HR1:Box (R=false):=⟨by rw[HR.o,xg,oG,decide_eq_false hr];rfl⟩
  rw[decide_eq_false hr]
  clear HR hr HF HM HN HH
  go_wp2
  go_ret
  exact⟨by rw[HR1.o];rfl,hb01⟩
theorem sD(v:Value)(L:List Fl)(s:ByteArray)(w:World)(hM:Mid L)(hF:FL w v L)(hW:iE L=L.length)(hs:s.size<=1000000000)(hl:(bW L).length<=1000000000):
  Calls prog 200 #[v,.string s] w fun e w'=>∃S:ByteArray,e=.returned (.tuple #[.string S,.nilIface])/\S.data.toList=bW L++[13,10]++s.data.toList/\Below w.heap.size w w':=by
 have HM:=Box.m hM
 have HF:=Box.m hF
 have HW:=Box.m hW
 clear hM hF hW
 go_enter func200,ntmps200
 go_wp2_with fail
 refine(MK v L _ HM.o HF.o HW.o).mono ?_
 rintro e w1 ⟨S,rfl,hS,hb1⟩
 have hsz:S.size<=1000000002:=by rw[<-ae,hS,List.length_append];simp;omega
 have hsum:¬9223372036854775807<S.size+s.size:=by omega
 have HS:Box ((S++s).data.toList=bW L++[13,10]++s.data.toList):=⟨by simp[hS]⟩
 clear hS HM HF HW
 go_wp2
 go_ret2
 exact⟨_,rfl,HS.o,hb1⟩
end Go.Proofs.YtkldkhdigkpniaaGreatDoor
