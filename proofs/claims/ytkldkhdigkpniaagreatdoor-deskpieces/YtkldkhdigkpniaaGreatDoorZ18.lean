import Derived.Test.YtkldkhdigkpniaaGreatDoorZ6
import Derived.Test.YtkldkhdigkpniaaGreatDoorZ17
import Derived.OwnWalk
set_option maxHeartbeats 4000000
set_option maxRecDepth 100000
open List renaming length_cons → GL, length_append → VQ, takeWhile_append_dropWhile → Ws, drop_zero → Xu, length_drop → ZV, drop_left → ZW, drop_succ_cons → ZX, length_take → ZY, take_of_length_le → ZZ, all_eq_true → Z0, append_nil → Z4, eq_nil_of_length_eq_zero → Z5, drop_drop → Z6, take_left → Z7, all_takeWhile → Z8, getElem?_append_right → Z9, head?_cons → aaa
open Nat renaming le_refl → aab, zero_add → aac, zero_le → aad
open Option renaming map_some → aae
namespace Go.Proofs.YtkldkhdigkpniaaGreatDoor
open Go.RowKit Go.Proofs.Tryz
def kI(least:Nat)(others:aa)(x:Nat):Bool:=decide (x<least)||decide (126<x)||decide (0<=Lib.indexByte others x.toUInt8)
def iM(least:Nat)(others:aa)(c:UInt8):Bool:=!kI least others c.toNat
theorem Jl(n b0 b1 b2 b3:Nat)(h:b0<128):Lib.decodeN n b0 b1 b2 b3=(b0,1):=by simp[Lib.decodeN,h]
theorem Ic(n b0 b1 b2 b3:Nat)(h:¬b0<128):128<=(Lib.decodeN n b0 b1 b2 b3).1:=by
 unfold Lib.decodeN
 rw[if_neg h]
 repeat' split
 all_goals simp only
 all_goals omega
theorem CQ(s:ByteArray)(k:Nat)(h:k<s.size):s.get! k=s[k]:=by
 have hk:k<s.data.size:=h
 show s.data[k]! = _
 rw[getElem!_pos s.data k hk];rfl
theorem rf(s:ByteArray)(k:Nat)(h:k<s.size)(hc:s[k].toNat<128):Utf8.decode s k=(s[k].toNat,1):=by
 rw[Lib.decode_at,Jl _ _ _ _ _ (by rw[CQ s k h];exact hc),CQ s k h]
theorem zU(s:ByteArray)(k:Nat)(h:k<s.size)(hc:¬s[k].toNat<128):128<=(Utf8.decode s k).1:=by
 rw[Lib.decode_at]
 exact Ic _ _ _ _ _ (by rw[CQ s k h];exact hc)
theorem U1(least:Nat)(others:aa)(s:ByteArray):∀f k:Nat,s.size<=k+f->k<=s.size->(s.data.toList.take k).all (iM least others)=true ->
  Lib.idxFuncFrom (kI least others) true s f k=if (s.data.toList.takeWhile (iM least others)).length=s.size then -1 else ((s.data.toList.takeWhile (iM least others)).length:Int):=by
 intro f
 induction f with
 | zero=>
  intro k hf hk ha
  have hks:¬k<s.size:=by omega
  obtain⟨e1,_⟩:=wm s k ha (fun h=>absurd h hks)
  rw[Lib.idxFuncFrom_end _ _ _ _ _ hks,e1,ZY,ae,if_pos (by omega)]
 | succ f ih=>
  intro k hf hk ha
  by_cases hks:k<s.size
  ·by_cases hw:iM least others s[k]=true
   ·have hlow:s[k].toNat<128:=by
     unfold iM kI at hw
     simp only[Bool.not_eq_true',Bool.or_eq_false_iff,decide_eq_false_iff_not]at hw
     omega
    have hp:kI least others s[k].toNat=false:=by unfold iM at hw;simpa using hw
    unfold Lib.idxFuncFrom
    rw[if_pos hks,rf s k hks hlow]
    simp only
    rw[if_neg (by rw[hp];decide)]
    exact ih (k+1) (by omega) (by omega) (sV s k hks ha hw)
   ·have hw':iM least others s[k]=false:=by simpa using hw
    have hp:kI least others (Utf8.decode s k).1=true:=by
     by_cases hlow:s[k].toNat<128
     ·rw[rf s k hks hlow]
      unfold iM at hw'
      simpa using hw'
     ·have:=zU s k hks hlow
      unfold kI
      rw[decide_eq_true (show 126<(Utf8.decode s k).1 by omega)]
      simp
    obtain⟨e1,_⟩:=wm s k ha (fun _=>hw')
    unfold Lib.idxFuncFrom
    rw[if_pos hks,if_pos hp,e1,ZY,ae,if_neg (by omega)]
    omega
  ·obtain⟨e1,_⟩:=wm s k ha (fun h=>absurd h hks)
   rw[Lib.idxFuncFrom_end _ _ _ _ _ hks,e1,ZY,ae,if_pos (by omega)]
theorem TV(least:Nat)(others:aa)(s:ByteArray):Lib.idxFunc (kI least others) true s=if (s.data.toList.takeWhile (iM least others)).length=s.size then -1 else ((s.data.toList.takeWhile (iM least others)).length:Int):=
 U1 least others s s.size 0 (by omega) (aad _) rfl
theorem JK(args:Array Value)(w:World):(callFunc 214 args).run prog w=.ok (.enter 214 args) w:=by simp[go_sem]
theorem MR(b1 b2:Nat)(least:Nat)(others:ByteArray)(x:Nat)(w:World)(hx:x<=1114111)(c1:w.cell? ⟨b1,0,none⟩=some (.int .i32 (least:Int)))(c2:w.cell? ⟨b2,0,none⟩=some (.string others)):
  Calls prog 214 #[.int .i32 (x:Int),.pointer (some ⟨b1,0,none⟩),.pointer (some ⟨b2,0,none⟩)] w fun e w'=>e=.returned (.bool (kI least others.data.toList x))/\w'=w:=by
 obtain⟨R,HR⟩:∃R,Box (R=kI least others.data.toList x):=⟨_,⟨rfl⟩⟩
 rw[<-HR.o]
 by_cases h1:x<least
 ·have z1:(x:Int)<(least:Int):=by omega
  have HR':Box (R=true):=⟨by rw[HR.o,kI,decide_eq_true h1];rfl⟩
  clear HR
  go_enter func214,ntmps214
  go_wp2
  go_ret
  exact⟨aN HR'.o.symm,rfl⟩
 ·have z1:¬(x:Int)<(least:Int):=by omega
  by_cases h2:126<x
  ·have z2:(126:Int)<(x:Int):=by omega
   have HR':Box (R=true):=⟨by rw[HR.o,kI,decide_eq_true h2];simp⟩
   clear HR
   go_enter func214,ntmps214
   go_wp2
   go_ret
   exact⟨aN HR'.o.symm,rfl⟩
  ·have z2:¬(126:Int)<(x:Int):=by omega
   have HR':Box (R=decide (0<=Lib.indexByte others.data.toList x.toUInt8)):=⟨by rw[HR.o,kI,decide_eq_false h1,decide_eq_false h2];rfl⟩
   have hc:=Tryz.strings_ContainsRune_ascii others (x:Int) w (by omega) (by omega)
   rw[Int.toNat_natCast,<-HR'.o]at hc
   clear HR HR'
   go_enter func214,ntmps214
   go_wp2_with (go_at_call 208;refine hc.mono ?_;rintro e w' ⟨rfl,rfl⟩)
   go_ret
   exact⟨rfl,rfl⟩
theorem L6(b1 b2 least:Nat)(others:ByteArray)(w:World)(h1:b1<w.heap.size)(h2:b2<w.heap.size)(c1:w.cell? ⟨b1,0,none⟩=some (.int .i32 (least:Int)))(c2:w.cell? ⟨b2,0,none⟩=some (.string others)):
  PredGrows prog 214 #[.pointer (some ⟨b1,0,none⟩),.pointer (some ⟨b2,0,none⟩)] (kI least others.data.toList) w:=by
 intro W x hx hb
 refine(MR b1 b2 least others x W hx ((hb.cell (p:=⟨b1,0,none⟩) h1).trans c1) ((hb.cell (p:=⟨b2,0,none⟩) h2).trans c2)).mono ?_
 rintro e w' ⟨rfl,rfl⟩
 exact⟨rfl,Below.refl _ _⟩
theorem qf(least:Nat)(others:ByteArray)(w:World):
  Calls prog 156 #[.int .i32 (least:Int),.string others] w fun e w'=>e=.returned (.func (.func 214) #[] #[.pointer (some ⟨w.heap.size,0,none⟩),.pointer (some ⟨w.heap.size+1,0,none⟩)])/\w'=(w.alloc (.cells #[.int .i32 (least:Int)] 21)).alloc (.cells #[.string others] 9):=by
 go_enter func156,ntmps156
 go_wp2
 go_ret
 exact⟨rfl,rfl⟩
theorem Jt(g:Nat)(lb:Array Value)(eg:∀args w,(callFunc g args).run prog w=.ok (.enter g args) w)(p:Nat->Bool)(s:ByteArray)(w:World)(hp:PredGrows prog g lb p w):
  Calls prog 155 #[.string s,.func (.func g) #[] lb] w fun e w'=>e=.returned (.int .i64 (Lib.idxFunc p true s))/\Below w.heap.size w w':=by
 have hc:=Tryz.strings_indexFunc g lb eg p true s w hp
 go_enter func155,ntmps155
 go_wp2_with (go_at_call 213;refine hc.mono ?_;rintro e w' ⟨rfl,hb⟩)
 go_ret
 exact⟨rfl,hb⟩
theorem EZ(w:World)(o1 o2:Obj)(v1 v2:Value)(t1 t2:TypeId)(h1:o1=.cells #[v1] t1 (0,0))(h2:o2=.cells #[v2] t2 (0,0)):((w.alloc o1).alloc o2).cell? ⟨w.heap.size,0,none⟩=some v1/\((w.alloc o1).alloc o2).cell? ⟨w.heap.size+1,0,none⟩=some v2:=by
 subst h1
 subst h2
 constructor
 ·simp only[World.cell?]
  rw[Below.heap_alloc _ _ _ (by simp),heap_alloc_new]
  rfl
 ·simp only[World.cell?]
  have e:w.heap.size+1=(w.alloc (.cells #[v1] t1 (0,0))).heap.size:=by simp
  rw[e,heap_alloc_new]
  rfl
theorem uw(least:Nat)(others s:ByteArray)(w:World)(z:Int)(hz:z=if (s.data.toList.takeWhile (iM least others.data.toList)).length=s.size then -1 else ((s.data.toList.takeWhile (iM least others.data.toList)).length:Int)):
  Calls prog 155 #[.string s,.func (.func 214) #[] #[.pointer (some ⟨w.heap.size,0,none⟩),.pointer (some ⟨w.heap.size+1,0,none⟩)]] ((w.alloc (.cells #[.int .i32 (least:Int)] 21)).alloc (.cells #[.string others] 9)) fun e w'=>e=.returned (.int .i64 z)/\Below w.heap.size w w':=by
 refine(Jt 214 _ JK (kI least others.data.toList) s _ (L6 _ _ least others _ (by simp;omega) (by simp) (EZ w _ _ _ _ _ _ rfl rfl).1 (EZ w _ _ _ _ _ _ rfl rfl).2)).mono ?_
 rintro e w' ⟨rfl,hb⟩
 rw[TV,<-hz]
 exact⟨rfl,((ag.alloc af _).alloc (by simp) _).trans (hb.mono (by simp;omega))⟩
theorem UU:iM 33 pU=dK:=by
 funext c
 have key:∀n:Fin 256,iM 33 pU (UInt8.ofNat n.val)=dK (UInt8.ofNat n.val):=by decide +kernel
 have:=key ⟨c.toNat,c.toNat_lt⟩
 simpa using this
theorem VX:iM 32 []=inC:=by
 funext c
 have key:∀n:Fin 256,iM 32 [] (UInt8.ofNat n.val)=inC (UInt8.ofNat n.val):=by decide +kernel
 have:=key ⟨c.toNat,c.toNat_lt⟩
 simpa using this
def jq(c:UInt8):Bool:=inC c&&c != 34&&c != 92
theorem LX:iM 32 [34,92]=jq:=by
 funext c
 have key:∀n:Fin 256,iM 32 [34,92] (UInt8.ofNat n.val)=jq (UInt8.ofNat n.val):=by decide +kernel
 have:=key ⟨c.toNat,c.toNat_lt⟩
 simpa using this
theorem EL{p:UInt8->Bool}(s:ByteArray):(s.data.toList.takeWhile p).length<=s.size:=by
 rw[<-ae];exact(List.takeWhile_sublist p).length_le
theorem DI{p:UInt8->Bool}(s:ByteArray):(s.extract 0 (s.data.toList.takeWhile p).length).data.toList=s.data.toList.takeWhile p/\(s.extract (s.data.toList.takeWhile p).length s.size).data.toList=s.data.toList.dropWhile p:=by
 have e:s.data.toList.takeWhile p++s.data.toList.dropWhile p=s.data.toList:=Ws
 rw[aB,aB]
 constructor
 ·rw[Xu,Nat.sub_zero]
  conv=>lhs;rhs;rw[<-e]
  exact Z7
 ·rw[ZZ (by rw[ZV,ae];exact aab _)]
  conv=>lhs;rhs;rw[<-e]
  exact ZW
def Zv(T U:aa)(w:World)(e:Ending)(w':World):Prop:=∃t u,e=.returned (.tuple #[.string t,.string u])/\t.data.toList=T/\u.data.toList=U/\Below w.heap.size w w'
theorem vN(s:ByteArray)(w:World):
  Calls prog 151 #[.string s] w fun e w'=>Zv (s.data.toList.takeWhile dK) (s.data.toList.dropWhile dK) w e w':=by
 have hw:=DI (p:=dK) s
 have hn:=EL (p:=dK) s
 obtain⟨T,HT⟩:∃T,Box (T=s.data.toList.takeWhile dK):=⟨_,⟨rfl⟩⟩
 obtain⟨U,HU⟩:∃U,Box (U=s.data.toList.dropWhile dK):=⟨_,⟨rfl⟩⟩
 rw[<-HT.o,<-HU.o]at hw ⊢
 rw[<-HT.o]at hn
 obtain⟨n,Hn⟩:∃n,Box (n=T.length):=⟨_,⟨rfl⟩⟩
 rw[<-Hn.o]at hw hn
 have HW:=Box.m hw
 obtain⟨z,HZ⟩:∃z:Int,Box (z=if n=s.size then -1 else (n:Int)):=⟨_,⟨rfl⟩⟩
 have HF:Box (z=if (s.data.toList.takeWhile (iM 33 pU)).length=s.size then -1 else ((s.data.toList.takeWhile (iM 33 pU)).length:Int)):=⟨by rw[HZ.o,Hn.o,HT.o,UU]⟩
 clear hw HT HU Hn
 by_cases hns:n=s.size
 ·have hz:z=-1:=by rw[HZ.o,if_pos hns]
  rw[hz]at HF
  rw[hns]at HW
  clear HZ hz hns hn
  go_enter func151,ntmps151
  go_wp2_with (first|(go_at_call 156;refine(qf 33 _ _).mono ?_;rintro e w1 ⟨rfl,rfl⟩)|(go_at_call 155;refine(uw 33 ⟨#[40,41,60,62,64,44,59,58,92,34,47,91,93,63,61]⟩ s w _ HF.o).mono ?_;rintro e w2 ⟨rfl,hb2⟩))
  go_region
  go_wp2
  go_ret2
  refine⟨_,_,rfl,?_,?_,by first|exact hb2|exact hb2.drew⟩
  ·have:=HW.o.1
   simpa using this
  ·have:=HW.o.2
   simpa using this
 ·have hz:z=(n:Int):=by rw[HZ.o,if_neg hns]
  rw[hz]at HF
  have hn':(n:Int)<(s.size:Int):=by omega
  clear HZ hz hns
  go_enter func151,ntmps151
  go_wp2_with (first|(go_at_call 156;refine(qf 33 _ _).mono ?_;rintro e w1 ⟨rfl,rfl⟩)|(go_at_call 155;refine(uw 33 ⟨#[40,41,60,62,64,44,59,58,92,34,47,91,93,63,61]⟩ s w _ HF.o).mono ?_;rintro e w2 ⟨rfl,hb2⟩))
  go_region
  go_wp2
  go_ret2
  exact⟨s.extract 0 n,s.extract n s.size,rfl,HW.o.1,HW.o.2,by first|exact hb2|exact hb2.drew⟩
theorem MM(l:aa):kP l=(!(l.takeWhile dK).isEmpty&&(l.dropWhile dK).isEmpty):=by
 unfold kP
 cases l with
 | nil=>rfl
 | cons c l=>
  by_cases hc:dK c=true
  ·have e1:(c::l).takeWhile dK=c::l.takeWhile dK:=by simp[hc]
   have e2:(c::l).dropWhile dK=l.dropWhile dK:=by simp[hc]
   rw[e1,e2]
   have e3:(l.dropWhile dK).isEmpty=l.all dK:=by
    rw[Bool.eq_iff_iff,List.isEmpty_iff,Z0]
    constructor
    ·intro h d hd
     have:=(Ws (p:=dK) (l:=l))
     rw[h,Z4]at this
     rw[<-this]at hd
     exact(Z0.1 (Z8)) d hd
    ·intro h
     have:=bI (p:=dK) l [] h rfl
     rw[Z4]at this
     exact this.2
   rw[e3]
   simp[hc]
  ·have hc':dK c=false:=by simpa using hc
   simp[hc']
theorem mr(s:ByteArray)(w:World):
  Calls prog 89 #[.string s] w fun e w'=>e=.returned (.bool (kP s.data.toList))/\Below w.heap.size w w':=by
 obtain⟨R,HR⟩:∃R,Box (R=kP s.data.toList):=⟨_,⟨rfl⟩⟩
 rw[<-HR.o]
 have HR':=Box.m (MM s.data.toList)
 go_enter func89,ntmps89
 go_wp2_with fail
 refine(vN s _).mono ?_
 rintro e w1 ⟨t,u,rfl,ht,hu,hb⟩
 have HE:Box (R=(!t.toList.isEmpty&&u.toList.isEmpty)):=⟨by rw[HR.o,HR'.o,<-ht,<-hu,ByteArray.toList_eq,ByteArray.toList_eq]⟩
 clear ht hu HR HR'
 cases h1:t.toList.isEmpty
 ·cases h2:u.toList.isEmpty
  all_goals
   have HE':=Box.m (HE.o.trans (by rw[h1,h2]))
   clear HE
   go_wp2
   go_ret
   exact⟨aN (by rw[HE'.o];rfl),hb⟩
 ·have HE':Box (R=false):=⟨by rw[HE.o,h1];rfl⟩
  clear HE
  go_wp2
  go_ret
  exact⟨aN (by rw[HE'.o]),hb⟩
theorem Vs(s:ByteArray):(s.data.toList.takeWhile inC).length=s.size↔s.data.toList.all inC=true:=by
 have e:=Ws (p:=inC) (l:=s.data.toList)
 constructor
 ·intro h
  have h2:s.data.toList.takeWhile inC=s.data.toList:=by
   refine(List.takeWhile_prefix inC).eq_of_length ?_
   rw[h,ae]
  rw[<-h2]
  exact Z8
 ·intro h
  have:=(bI (p:=inC) s.data.toList [] (Z0.1 h) rfl).1
  rw[Z4]at this
  rw[this,ae]
theorem Kn(s:ByteArray)(w:World):
  Calls prog 90 #[.string s] w fun e w'=>e=.returned (.bool (s.data.toList.all inC))/\Below w.heap.size w w':=by
 obtain⟨R,HR⟩:∃R,Box (R=s.data.toList.all inC):=⟨_,⟨rfl⟩⟩
 rw[<-HR.o]
 obtain⟨z,HZ⟩:∃z:Int,Box (z=if (s.data.toList.takeWhile (iM 32 [])).length=s.size then -1 else ((s.data.toList.takeWhile (iM 32 [])).length:Int)):=⟨_,⟨rfl⟩⟩
 have hz:(R=true/\z<0)\/(R=false/\¬z<0):=by
  rw[HR.o,HZ.o,VX]
  by_cases h:(s.data.toList.takeWhile inC).length=s.size
  ·rw[if_pos h]
   exact .inl ⟨(Vs s).1 h,by omega⟩
  ·rw[if_neg h]
   refine .inr ⟨?_,by omega⟩
   rw[<-Bool.not_eq_true]
   exact fun h'=>h ((Vs s).2 h')
 clear HR
 rcases hz with⟨rfl,hz⟩|⟨rfl,hz⟩
 all_goals
  go_enter func90,ntmps90
  go_wp2_with (first|(go_at_call 156;refine(qf 32 _ _).mono ?_;rintro e w1 ⟨rfl,rfl⟩)|(go_at_call 155;refine(uw 32 ⟨#[]⟩ s w _ HZ.o).mono ?_;rintro e w2 ⟨rfl,hb2⟩))
  go_ret
  exact⟨aN (by simp[hz]),hb2⟩
theorem DD(s:ByteArray)(w:World)(hs:s.size<=1000000):
  Calls prog 88 #[.string s] w fun e w'=>e=.returned (.bool (decide (ah s.data.toList=s.data.toList)))/\Below w.heap.size w w':=by
 go_enter func88,ntmps88
 go_wp2_with fail
 refine(iB s _ (by omega)).mono ?_
 rintro e w1 ⟨t,rfl,ht,hb⟩
 have HT:=Box.m ht
 clear ht
 go_wp2
 go_ret
 refine⟨aN ?_,hb⟩
 rw[<-HT.o,Bool.eq_iff_iff,decide_eq_true_iff,ByteArray.toList_eq,ByteArray.toList_eq,beq_iff_eq]
theorem Vf(l:aa):Lib.trimLeftS l [32,9]=aW l:=by
 unfold Lib.trimLeftS
 rw[xR]
 rfl
theorem uD(s:ByteArray)(w:World):
  Calls prog 152 #[.string s] w fun e w'=>∃t,e=.returned (.string t)/\t.data.toList=aW s.data.toList/\Below w.heap.size w w':=by
 have hc:=Tryz.strings_TrimLeft_laid s ⟨#[32,9]⟩ w (by decide) (by
  intro j b hj
  match j,hj with
  | 0,hj=>cases hj;decide
  | 1,hj=>cases hj;decide
  | j+2,hj=>simp at hj)
 go_enter func152,ntmps152
 go_wp2_with (go_at_call 210;refine hc.mono ?_;rintro e w1 ⟨rfl,hb⟩)
 go_ret
 exact⟨_,rfl,Vf _,hb⟩
def gu(w:World)(B:Nat)(v:Value)(L:List Fl):Prop:=w.ownsRow B 125 2 v L.length (aX L)
theorem Tryz.infoPrm:(prog.info? 125).map (fun i=>(i.zero,i.size,i.bytes))=some (some (.agg #[.string ⟨#[]⟩,.string ⟨#[]⟩]),2,32):=by kernel_rfl
theorem gu.nil(w:World)(B:Nat):gu w B (.slice none 0 0) []:=World.ownsRow_nil _ _ _ _
theorem gu.below{w w':World}{B C:Nat}{v:Value}{L:List Fl}(h:gu w B v L)(hb:Below C w w')(hC:w.heap.size<=C):gu w' B v L:=by
 obtain⟨h1,h2⟩:=h
 refine⟨h1,?_⟩
 rcases h2 with h2|⟨g,cap,cur,a,b,c,d⟩
 ·exact .inl h2
 ·refine .inr ⟨g,cap,cur,a,b,?_,d⟩
  rw[hb.block g ?_]
  ·exact c
  ·have:=(Array.getElem?_eq_some_iff.1 c).1
   omega
theorem gu.shape{w:World}{B:Nat}{v:Value}{L:List Fl}(h:gu w B v L):
  (v=.slice none 0 0/\L=[])\/∃g cap,v=.slice (some ⟨g,0,none⟩) L.length cap/\B<=g/\g<w.heap.size/\L.length<=cap:=by
 rcases h.2 with⟨a,b⟩|⟨g,cap,cur,a,b,c,d,e,_⟩
 ·exact .inl ⟨a,Z5 b⟩
 ·exact .inr ⟨g,cap,a,b,(Array.getElem?_eq_some_iff.1 c).1,d⟩
theorem gu.cell{w:World}{B g cap n:Nat}{L:List Fl}(h:gu w B (.slice (some ⟨g,0,none⟩) n cap) L)(k:Nat)(hk:k<L.length):w.cell? ⟨g,k*2,none⟩=some (.string L[k].1)/\w.cell? ⟨g,k*2+1,none⟩=some (.string L[k].2)/\w.frozen? ⟨g,k*2+1,none⟩=false:=by
 have hn:n=L.length:=by
  rcases h.2 with⟨a,_⟩|⟨g',cap',cur,a,_⟩
  ·cases a
  ·simp only[Value.slice.injEq]at a;exact a.2.1
 subst hn
 have h':w.ownsRow B 125 2 (.slice (some ⟨g,0,none⟩) L.length cap) L.length (aX L):=h
 have hg:=wG L k hk
 exact⟨(World.ownsRow.cellAt h' (k*2) (by omega)).trans hg.1,(World.ownsRow.cellAt h' (k*2+1) (by omega)).trans hg.2,World.ownsRow.frozenAt h' _⟩
theorem gu.fl{w:World}{B:Nat}{v:Value}{L:List Fl}(h:gu w B v L):FL w v L:=by
 rcases h.shape with⟨rfl,rfl⟩|⟨g,cap,rfl,_,_,hc⟩
 ·exact FL.nil w
 ·refine⟨_,_,rfl,hc,fun k hk=>⟨g,0,rfl,?_,?_⟩⟩
  ·rw[aac];exact(h.cell k hk).1
  ·rw[aac];exact(h.cell k hk).2.1
theorem gu.set{w:World}{B g cap:Nat}{L:List Fl}(h:gu w B (.slice (some ⟨g,0,none⟩) L.length cap) L)(k:Nat)(hk:k<L.length)(x:ByteArray):gu (w.setCell ⟨g,k*2+1,none⟩ (.string x)) B (.slice (some ⟨g,0,none⟩) L.length cap) (L.set k (L[k].1,x)):=by
 have h':w.ownsRow B 125 2 (.slice (some ⟨g,0,none⟩) L.length cap) L.length (aX L):=h
 have:=(World.ownsRow.stored h' (k*2+1) (.string x)).1
 rw[qN L k hk x]at this
 unfold gu
 rw[List.length_set]
 exact this
theorem VI{o:Oper}{a:Act}{K:Act->World->Prop}{Q:Exit->Act->World->Prop}(W w0:World)(s x:Operand)(ho:o.op=.call { callee:=.builtin .append,args:=#[s,x],argTypes:=#[71,71] })
  (B:Nat) (v:Value) (L:List Fl) (hs:a.eval s=v) (hown:gu W B v L) (b c:Nat) (f:Fl) (hx:a.eval x=.slice (some ⟨b,0,none⟩) 1 c) (h0:W.cell? ⟨b,0,none⟩=some (.string f.1)) (h1:W.cell? ⟨b,1,none⟩=some (.string f.2)) (hl:L.length+1<=1000000) (hB:B<=W.heap.size) (hb:Below B w0 W)
  (h:∀v' w',gu w' B v' (L++[f])->Below B w0 w'->K (a.put o.dst v') w'):o.wp prog a W K Q:=by
 obtain⟨i0,hi,hz0,hz1,hz2⟩:=info_parts Tryz.infoPrm
 refine wp_append_own W s x 71 ho B 125 i0 (.agg #[.string ⟨#[]⟩,.string ⟨#[]⟩]) 2 32 underlying71 hi hz0 hz1 hz2 rfl (by decide) v L.length (aX L) hs hown ⟨b,0,none⟩ 1 c (aX [f]) hx rfl ?_ ?_ (by unfold maxLen;omega) (by omega) hB ?_
 ·intro j u hj
  have hjl:j<2:=(List.getElem?_eq_some_iff.1 hj).1
  rw[Addr.add_lit,aac]
  match j,hjl,hj with
  | 0,_,hj=>rw[h0];exact hj
  | 1,_,hj=>rw[h1];exact hj
 ·intro u hu
  have:u=.string f.1\/u=.string f.2:=by simpa[aX]using hu
  rcases this with rfl|rfl<;>rfl
 ·intro v' w' h2 h3 _
  refine h v' w' ?_ (hb.grown h3 hB (fun k hk=>(hown.lt k hk).1))
  unfold gu
  rw[VQ,pE]
  exact h2
theorem Ox{ops:Array Oper}{rest:List Oper}{o:Oper}{a:Act}{Q:Exit->Act->World->Prop}(W w0:World)(hgd:o.guard=none)(s x:Operand)(ho:o.op=.call { callee:=.builtin .append,args:=#[s,x],argTypes:=#[71,71] })
  (B:Nat) (v:Value) (L:List Fl) (hs:a.eval s=v) (hown:gu W B v L) (b c:Nat) (f:Fl) (hx:a.eval x=.slice (some ⟨b,0,none⟩) 1 c) (h0:W.cell? ⟨b,0,none⟩=some (.string f.1)) (h1:W.cell? ⟨b,1,none⟩=some (.string f.2)) (hl:L.length+1<=1000000) (hB:B<=W.heap.size) (hb:Below B w0 W)
  (h:∀v' w',gu w' B v' (L++[f])->Below B w0 w'->wpList prog ops Q rest (a.put o.dst v') w'):wpList prog ops Q (o::rest) a W:=
 wpList_plain hgd fun _ hK=>VI W w0 s x ho B v L hs hown b c f hx h0 h1 hl hB hb fun v' w' h2 h3=>hK _ _ (h v' w' h2 h3)
theorem gu.mono{w:World}{B B':Nat}{v:Value}{L:List Fl}(h:gu w B v L)(hB:B'<=B):gu w B' v L:=by
 obtain⟨h1,h2⟩:=h
 refine⟨h1,?_⟩
 rcases h2 with h2|⟨g,cap,cur,a,b,c⟩
 ·exact .inl h2
 ·exact .inr ⟨g,cap,cur,a,Nat.le_trans hB b,c⟩
theorem BG(l:aa)(c:UInt8):(Lib.indexByte l c=-1/\l.dropWhile (· != c)=[]/\l.takeWhile (· != c)=l)\/(Lib.indexByte l c=((l.takeWhile (· != c)).length:Int)/\∃r,l.dropWhile (· != c)=c::r):=by
 induction l with
 | nil=>exact .inl ⟨rfl,rfl,rfl⟩
 | cons b l ih=>
  by_cases hb:b=c
  ·subst hb
   refine .inr ⟨?_,l,?_⟩
   ·simp[Lib.indexByte]
   ·simp
  ·have h1:(b==c)=false:=by simpa using hb
   have h2:(b != c)=true:=by simpa using hb
   have e1:(b::l).takeWhile (· != c)=b::l.takeWhile (· != c):=by rw[List.takeWhile_cons,h2];rfl
   have e2:(b::l).dropWhile (· != c)=l.dropWhile (· != c):=by rw[List.dropWhile_cons,h2];rfl
   rw[e1,e2,Lib.indexByte,h1]
   rcases ih with⟨i1,i2,i3⟩|⟨i1,i2⟩
   ·exact .inl ⟨by rw[i1];rfl,i2,by rw[i3]⟩
   ·refine .inr ⟨?_,i2⟩
    rw[i1]
    have:(((l.takeWhile (· != c)).length:Int)==-1)=false:=by rw[beq_eq_false_iff_ne];omega
    rw[this,GL]
    simp
theorem E5(l:aa)(c:UInt8):Lib.cut l [c]=(l.takeWhile (· != c),(l.dropWhile (· != c)).drop 1,!(l.dropWhile (· != c)).isEmpty):=by
 unfold Lib.cut
 rw[uT]
 have e:=Ws (p:=(· != c)) (l:=l)
 rcases BG l c with⟨h1,h2,h3⟩|⟨h1,r,h2⟩
 ·rw[h1,if_neg (by omega),h2,h3];rfl
 ·rw[h1,if_pos (by omega),h2]
  rw[h2]at e
  simp only[Int.toNat_natCast,GL,List.length_nil,List.isEmpty_cons,Bool.not_false,ZX,Xu]
  congr 1
  ·conv=>lhs;rhs;rw[<-e]
   exact Z7
  ·congr 1
   conv=>lhs;rhs;rw[<-e]
   rw[<-Z6,ZW]
   rfl
theorem Fa(s:ByteArray)(w:World)(hs:s.size<=100000)(hm:Max w):
  Calls prog 85 #[.string s] w fun e w'=>e=.returned (.bool (lC s.data.toList))/\Below w.heap.size w w':=by
 obtain⟨R,HR⟩:∃R,Box (R=lC s.data.toList):=⟨_,⟨rfl⟩⟩
 rw[<-HR.o]
 go_enter func85,ntmps85
 go_wp2_with fail
 refine(qL s ⟨#[47]⟩ _ hs hm).mono ?_
 rintro e w1 ⟨a,b,f,rfl,hc,_,_,hb1⟩
 have hc':=E5 s.data.toList 47
 rw[show(⟨#[47]⟩:ByteArray).data.toList=[47]from rfl,hc']at hc
 simp only[Prod.mk.injEq]at hc
 obtain⟨q1,q2,q3⟩:=hc
 have HE:Box (R=(kP a.data.toList&&(!f||kP b.data.toList))):=⟨by
  rw[HR.o,lC,q1,q2,<-q3,Bool.not_not]⟩
 clear q1 q2 q3 hc' HR hm
 have hsz:=hb1.size
 go_wp2_with fail
 refine(mr a _).mono ?_
 rintro e w2 ⟨rfl,hb2⟩
 have b2:=hb1.trans (hb2.mono hsz)
 cases h1:kP a.data.toList
 ·have HE':Box (R=false):=⟨by rw[HE.o,h1];rfl⟩
  clear HE
  go_wp2
  go_ret
  exact⟨aN (by rw[HE'.o]),b2⟩
 ·cases f
  ·have HE':Box (R=true):=⟨by rw[HE.o,h1];rfl⟩
   clear HE
   go_wp2
   go_ret
   exact⟨aN (by rw[HE'.o]),b2⟩
  ·have HE':Box (R=kP b.data.toList):=⟨by rw[HE.o,h1];rfl⟩
   clear HE
   go_wp2_with fail
   refine(mr b _).mono ?_
   rintro e w3 ⟨rfl,hb3⟩
   go_wp2
   go_ret
   exact⟨aN (by rw[HE'.o]),b2.trans (hb3.mono b2.size)⟩
theorem qH(x y:aa)(h:∀c∈x,jq c=true):bf (x++y)=(bf y).map fun q=>(x++q.1,q.2):=by
 induction x with
 | nil=>simp
 | cons c x ih=>
  have hc:=h c List.mem_cons_self
  unfold jq at hc
  simp only[Bool.and_eq_true,bne_iff_ne,ne_eq]at hc
  rw[List.cons_append,yY c _ hc.1.2 hc.2,hc.1.1,ih fun d hd=>h d (List.mem_cons_of_mem _ hd)]
  cases bf y with
  | none=>rfl
  | some q=>rfl
def Ou(Q:Option (aa×aa))(e:Ending):Prop:=
 match Q with
 | some q=>∃t u:ByteArray,e=.returned (.tuple #[.string t,.string u,.bool true])/\t.data.toList=q.1/\u.data.toList=q.2
 | none=>∃t u:ByteArray,e=.returned (.tuple #[.string t,.string u,.bool false])
theorem Cs{e:Ending}(o r:aa)(Q:Option (aa×aa))(hQ:Q=some (o,r))(t u:ByteArray)(he:e=.returned (.tuple #[.string t,.string u,.bool true]))(ht:t.data.toList=o)(hu:u.data.toList=r):Ou Q e:=by
 subst hQ
 exact⟨t,u,he,ht,hu⟩
theorem nJ{e:Ending}(Q:Option (aa×aa))(hQ:Q=none)(t u:ByteArray)(he:e=.returned (.tuple #[.string t,.string u,.bool false])):Ou Q e:=by
 subst hQ
 exact⟨t,u,he⟩
theorem qI(s:ByteArray)(w:World)(hs:s.size<=1000000):
  Calls prog 211 #[.string s] w fun e w'=>Ou (bf s.data.toList) e/\Below w.heap.size w w':=by
 obtain⟨Q,HQ⟩:∃Q,Box (Q=bf s.data.toList):=⟨_,⟨rfl⟩⟩
 rw[<-HQ.o]
 go_enter func211,ntmps211
 go_wp2
 go_loopg [0,5] s.size (fun gf x v wx=>∃(t:ByteArray) (o:aa),x=.string t/\Own wx w.heap.size v o/\Box (Q=(bf t.data.toList).map fun q=>(o++q.1,q.2))/\Below w.heap.size w wx/\t.size<=gf/\t.size+o.length<=s.size)
 case atStart=>exact⟨s,[],rfl,Own.nil _ _,⟨by rw[HQ.o];simp⟩,Below.refl _ _,aab _,aab (s.size+0)⟩
 case round=>
  obtain⟨t,o,rfl,hown,HT,hb,hgf,hso⟩:=hrel
  have hsz:=hb.size
  have hw:=DI (p:=jq) t
  have hn:=EL (p:=jq) t
  have hdr:t.data.toList.takeWhile jq++t.data.toList.dropWhile jq=t.data.toList:=Ws
  have hq:=qH (t.data.toList.takeWhile jq) (t.data.toList.dropWhile jq) (bg t.data.toList)
  rw[hdr]at hq
  obtain⟨z,HZ⟩:∃z:Int,Box (z=if (t.data.toList.takeWhile (iM 32 [34,92])).length=t.size then -1 else ((t.data.toList.takeWhile (iM 32 [34,92])).length:Int)):=⟨_,⟨rfl⟩⟩
  have hz:=HZ.o
  rw[LX]at hz
  obtain⟨X,HX⟩:∃X,Box (X=t.data.toList.takeWhile jq):=⟨_,⟨rfl⟩⟩
  obtain⟨Y,HY⟩:∃Y,Box (Y=t.data.toList.dropWhile jq):=⟨_,⟨rfl⟩⟩
  have hyd:Y.head?.all (fun c=>!jq c)=true:=by
   rw[HY.o]
   generalize t.data.toList=l
   induction l with
   | nil=>rfl
   | cons c l ih=>
    by_cases hc:jq c=true
    ·simpa[hc]using ih
    ·simp[hc]
  rw[<-HX.o,<-HY.o]at hw hq hdr
  rw[<-HX.o]at hn hz
  have hlen:X.length+Y.length=t.size:=by rw[<-ae t,<-hdr,VQ]
  obtain⟨n,hnn⟩:∃n,n=X.length:=⟨_,rfl⟩
  rw[<-hnn]at hw hn hz hlen
  clear HX HY
  by_cases hnt:n=t.size
  ·-- nothing ends it
   have hz':z=-1:=by rw[hz,if_pos hnt]
   rw[hz']at HZ
   have hY:Y=[]:=Z5 (by omega)
   have HN:Box (Q=none):=⟨by rw[HT.o,hq,hY,wZ];rfl⟩
   clear HT HQ hw hn hz hdr hq hyd hlen hnt hz' hY hnn
   go_wp2_with fail
   refine(qf 32 _ _).mono ?_
   rintro e w1 ⟨rfl,rfl⟩
   go_wp2_with fail
   refine(uw 32 ⟨#[34,92]⟩ t wr _ HZ.o).mono ?_
   rintro e w2 ⟨rfl,hb2⟩
   go_wp2
   go_ret3
   exact⟨nJ Q HN.o _ _ rfl,hb.trans (hb2.mono hsz)⟩
  ·have hz':z=(n:Int):=by rw[hz,if_neg hnt]
   rw[hz']at HZ
   have hlt:n<t.size:=by omega
   obtain⟨c,Y',hY⟩:∃c Y',Y=c::Y':=by
    cases Y with
    | nil=>simp at hlen;omega
    | cons c Y'=>exact⟨c,Y',rfl⟩
   have htl:t.data.toList=X++c::Y':=by rw[<-hdr,hY]
   have hgetn:t[n]=c:=by
    have h1:=xU t n hlt
    have e0:n - X.length=0:=by omega
    rw[htl,Z9 (by omega),e0]at h1
    exact(Option.some.inj h1).symm
   have hcp:jq c=false:=by rw[hY]at hyd;simpa using hyd
   have HX:Box ((t.extract 0 n).data.toList=X):=⟨hw.1⟩
   have hxs:(t.extract 0 n).size=n:=by rw[<-ae,hw.1,<-hnn]
   have HQ2:Box (Q=((bf (c::Y')).map fun q=>(X++q.1,q.2)).map fun q=>(o++q.1,q.2)):=⟨by rw[HT.o,hq,hY]⟩
   have hbyte:(t[n].toNat:Int)<256:=by have:=t[n].toNat_lt;omega
   have Hg:=Box.m hgetn
   have Hl:=Box.m htl
   have HnX:=Box.m hnn
   have hYl:Y'.length+n+1=t.size:=by rw[hY]at hlen;simp at hlen;omega
   clear HT HQ hw hn hz hdr hq hyd hlen hnt hz' hY hnn hgetn htl
   go_wp2_with fail
   refine(qf 32 _ _).mono ?_
   rintro e w1 ⟨rfl,rfl⟩
   go_wp2_with fail
   refine(uw 32 ⟨#[34,92]⟩ t wr _ HZ.o).mono ?_
   rintro e w2 ⟨rfl,hb2⟩
   have b2:=hb.trans (hb2.mono hsz)
   have hsz2:=b2.size
   have hown2:=hown.below hb2 af
   clear hown HZ
   by_cases h34:c=34
   ·have HE:Box (Q=some (o++X,Y')):=⟨by rw[HQ2.o,h34,BR];simp⟩
    have x1:((t[n].toNat:Int)==34)=true:=by
     have:=CV t[n] 34
     rw[Hg.o,h34]at this
     rw[Hg.o,h34];rfl
    have HY:Box ((t.extract (n+1) t.size).data.toList=Y'):=⟨by
     rw[aB,ZZ (by rw[ZV,ae];exact aab _),Hl.o,HnX.o,<-Z6,ZW];rfl⟩
    clear HQ2 h34 hcp
    go_wp2_with (at_builtin;refine ol _ w rfl (.tmp 12) (.tmp 15) rfl w.heap.size _ o rfl hown2 (t.extract 0 n) rfl (by omega) hsz2 b2 ?_;intro v3 w3 hown3 hb3;rw[HX.o]at hown3;have hcv:=hown3.string)
    have hcd:(convert 32 9 v3).run prog w3.drew=.ok (.string ⟨(o++X).toArray⟩) w3.drew:=Own.string (w:=w3.drew) (B:=w.heap.size) hown3
    go_region
    go_wp2
    go_ret3
    refine⟨Cs _ _ Q HE.o _ _ rfl ?_ HY.o,hb3.drew⟩
    simp
   ·have x1:((t[n].toNat:Int)==34)=false:=by
     have e:=CV t[n] 34
     rw[Hg.o]at e ⊢
     exact e.trans (by simpa using h34)
    by_cases h92:c=92
    ·have x2:((t[n].toNat:Int) != 92)=false:=by rw[Hg.o,h92];rfl
     by_cases hend:Y'=[]
     ·have HN:Box (Q=none):=⟨by rw[HQ2.o,h92,hend,zx];rfl⟩
      have x3:(((n:Int)+1)==(t.size:Int))=true:=Ki (by rw[hend]at hYl;simp at hYl;omega)
      clear HQ2 h34 h92 hcp hend
      go_wp2_with (at_builtin;refine ol _ w rfl (.tmp 12) (.tmp 15) rfl w.heap.size _ o rfl hown2 (t.extract 0 n) rfl (by omega) hsz2 b2 ?_;intro v3 w3 hown3 hb3)
      go_ret3
      exact⟨nJ Q HN.o _ _ rfl,hb3⟩
     ·obtain⟨d,Y2,hY2⟩:∃d Y2,Y'=d::Y2:=by
       cases Y' with
       | nil=>exact absurd rfl hend
       | cons d Y2=>exact⟨d,Y2,rfl⟩
      have hY2l:Y2.length+n+2=t.size:=by rw[hY2]at hYl;simp at hYl;omega
      have hlt1:n+1<t.size:=by omega
      have x3:(((n:Int)+1)==(t.size:Int))=false:=Ef (by omega)
      have hgd:t[n+1]=d:=by
       have h1:=xU t (n+1) hlt1
       have e0:n+1 - X.length=1:=by have:=HnX.o;omega
       rw[Hl.o,hY2,Z9 (by have:=HnX.o;omega),e0]at h1
       exact(Option.some.inj h1).symm
      have HD:=Box.m hgd
      have e1:=Ih t (n+1) hlt1
      rw[hgd]at e1
      have HE1:=Box.m e1
      have HY3:Box ((t.extract (n+2) t.size).data.toList=Y2):=⟨by
       rw[aB,ZZ (by rw[ZV,ae];exact aab _),Hl.o,hY2,HnX.o,<-Z6,ZW];rfl⟩
      have hy3:(t.extract (n+2) t.size).size=t.size - (n+2):=by simp[ByteArray.size_extract]
      have HQ3:Box (Q=((if inC d then (bf Y2).map fun q=>(d::q.1,q.2) else none).map fun q=>(X++q.1,q.2)).map fun q=>(o++q.1,q.2)):=⟨by rw[HQ2.o,h92,hY2,zZ]⟩
      have hbd:(t[n+1].toNat:Int)<256:=by have:=t[n+1].toNat_lt;omega
      clear HQ2 h34 h92 hcp hend hY2 hgd e1
      go_wp2_with (at_builtin;refine ol _ w rfl (.tmp 12) (.tmp 15) rfl w.heap.size _ o rfl hown2 (t.extract 0 n) rfl (by omega) hsz2 b2 ?_;intro v3 w3 hown3 hb3)
      refine(Kn (t.extract (n+1) (n+2)) _).mono ?_
      rintro e w4 ⟨rfl,hb4⟩
      have b4:=hb3.trans (hb4.mono hb3.size)
      have hown4:=hown3.below hb4 af
      rw[HX.o]at hown4
      have hsz4:=b4.size
      have hXl:(o++X).length=o.length+n:=by rw[VQ,HnX.o]
      rw[HE1.o]
      cases hin:inC d
      ·have HN:Box (Q=none):=⟨by rw[HQ3.o,hin];rfl⟩
       have hal:[d].all inC=false:=by simp[hin]
       rw[hal]
       clear HQ3 hin hal
       go_wp2
       go_ret3
       exact⟨nJ Q HN.o _ _ rfl,b4⟩
      ·have HN:Box (Q=(bf (t.extract (n+2) t.size).data.toList).map fun q=>((o++X)++[d]++q.1,q.2)):=⟨by
        rw[HQ3.o,hin,HY3.o]
        cases bf Y2 with
        | none=>rfl
        | some q=>simp⟩
       have hal:[d].all inC=true:=by simp[hin]
       rw[hal]
       clear HQ3 hin hal
       go_wp2_with (at_builtin;refine kK w4 w _ rfl (.tmp 48) (.tmp 53) rfl w.heap.size _ _ rfl hown4 rfl d (by rw[HD.o]) (by omega) hsz4 b4 ?_;intro v5 w5 hown5 hb5)
       go_roundg (t.size - (n+2))
       case measure=>omega
       case rel=>exact⟨_,_,rfl,hown5,HN,hb5,by omega,by rw[VQ,hXl];simp;omega⟩
    ·have HN:Box (Q=none):=⟨by
      have hin:inC c=false:=by
       unfold jq at hcp
       rw[show(c != 34)=true by simpa using h34,show(c != 92)=true by simpa using h92]at hcp
       simpa using hcp
      rw[HQ2.o,yY c Y' h34 h92,hin];rfl⟩
     have x2:((t[n].toNat:Int) != 92)=true:=by
      have e:=X6 t[n] 92
      rw[Hg.o]at e ⊢
      exact e.trans (by simpa using h92)
     clear HQ2 h34 h92 hcp
     go_wp2_with (at_builtin;refine ol _ w rfl (.tmp 12) (.tmp 15) rfl w.heap.size _ o rfl hown2 (t.extract 0 n) rfl (by omega) hsz2 b2 ?_;intro v3 w3 hown3 hb3)
     go_ret3
     exact⟨nJ Q HN.o _ _ rfl,hb3⟩
def pb2(f:Fl):PB:=(f.1.data.toList,f.2.data.toList)
def rM(l:aa):Option (aa×aa):=if l.head?=some 34 then bf (l.drop 1) else if l.takeWhile dK=[] then none else some (l.takeWhile dK,l.dropWhile dK)
theorem Ak(nm r5:aa):qY nm r5=(rM r5).map fun q=>((ah nm,q.1),aW q.2):=by
 unfold qY rM
 split
 ·rfl
 ·split<;>rfl
theorem Nl:∀(n:Nat) (l v r:aa),l.length<=n->bf l=some (v,r)->v.length+r.length+1<=l.length:=by
 intro n
 induction n with
 | zero=>
  intro l v r hl h
  rw[Z5 (by omega:l.length=0),wZ]at h
  cases h
 | succ n ih=>
  intro l v r hl h
  cases l with
  | nil=>rw[wZ]at h;cases h
  | cons c l=>
   simp only[GL]at hl ⊢
   by_cases h1:c=34
   ·rw[h1,BR]at h
    injection h with h
    injection h with h2 h3
    subst h2 h3
    simp
   ·by_cases h2:c=92
    ·cases l with
     | nil=>rw[h2,zx]at h;cases h
     | cons d l=>
      rw[h2,zZ]at h
      simp only[GL]at hl ⊢
      split at h
      ·cases hq:bf l with
       | none=>rw[hq]at h;cases h
       | some q=>
        rw[hq]at h
        obtain⟨a,b⟩:=q
        have:=ih l a b (by omega) hq
        simp only[aae,Option.some.injEq,Prod.mk.injEq]at h
        obtain⟨rfl,rfl⟩:=h
        simp only[GL]
        omega
      ·cases h
    ·rw[yY c l h1 h2]at h
     split at h
     ·cases hq:bf l with
      | none=>rw[hq]at h;cases h
      | some q=>
       rw[hq]at h
       obtain⟨a,b⟩:=q
       have:=ih l a b (by omega) hq
       simp only[aae,Option.some.injEq,Prod.mk.injEq]at h
       obtain⟨rfl,rfl⟩:=h
       simp only[GL]
       omega
     ·cases h
theorem wO(l:aa):(l.takeWhile dK).length+(l.dropWhile dK).length=l.length:=by
 conv=>rhs;rw[<-Ws (p:=dK) (l:=l),VQ]
theorem Tz(l v r:aa)(h:rM l=some (v,r)):v.length+r.length<=l.length:=by
 unfold rM at h
 split at h
 ·have:=Nl _ _ v r af h
  have h2:=ZV (i:=1) (l:=l)
  omega
 ·split at h
  ·cases h
  ·simp only[Option.some.injEq,Prod.mk.injEq]at h
   obtain⟨rfl,rfl⟩:=h
   have:=wO l
   omega
theorem Ph(l:aa)(p:PB)(r:aa)(h:xM l=some (p,r)):p.1.length+p.2.length+r.length+1<=l.length:=by
 unfold xM at h
 split at h
 ·cases h
 ·split at h
  ·rename_i h0 h1
   rw[Ak]at h
   generalize hx:aW ((aW l).dropWhile dK)=x at h h1
   cases x with
   | nil=>cases h1
   | cons c x=>
    rw[ZX,Xu]at h
    cases hq:rM (aW x)with
    | none=>rw[hq]at h;cases h
    | some q=>
     obtain⟨v,rr⟩:=q
     rw[hq]at h
     simp only[aae,Option.some.injEq,Prod.mk.injEq]at h
     obtain⟨rfl,rfl⟩:=h
     have h2:=Tz _ v rr hq
     have h3:=dB x
     have h4:=dB rr
     have h5:=dB ((aW l).dropWhile dK)
     have h6:=wO (aW l)
     have h7:=dB l
     rw[hx,GL]at h5
     have h8:(ah ((aW l).takeWhile dK)).length=((aW l).takeWhile dK).length:=by simp[ah]
     simp only
     omega
  ·cases h
theorem Cz(s:ByteArray)(c:UInt8)(w:World):Calls prog 87 #[.string s,.string ⟨#[c]⟩] w fun e w'=>∃t q,e=.returned (.tuple #[.string t,.bool q])/\((q=true/\s.data.toList=c::t.data.toList)\/(q=false/\s.data.toList.head?≠some c/\t=s))/\w'=w:=by
 refine(Tryz.strings_CutPrefix s ⟨#[c]⟩ w).mono ?_
 rintro e w' ⟨rfl,rfl⟩
 refine⟨_,_,rfl,?_,rfl⟩
 unfold Lib.trimPrefix Lib.hasPrefix
 rw[show(⟨#[c]⟩:ByteArray).data.toList=[c]from rfl]
 cases hs:s.data.toList with
 | nil=>exact .inr ⟨rfl,by simp,aF (by rw[hs];rfl)⟩
 | cons d l=>
  by_cases hd:c=d
  ·subst hd
   exact .inl ⟨by simp,by simp⟩
  ·have hp:([c].isPrefixOf (d::l))=false:=by simp[List.isPrefixOf,hd]
   refine .inr ⟨hp,by simpa using fun e=>hd e.symm,aF ?_⟩
   rw[hp,hs];rfl
theorem RX(s:ByteArray)(w:World)(hs:s.size<=1000000):
  Calls prog 153 #[.string s] w fun e w'=>Ou (rM s.data.toList) e/\Below w.heap.size w w':=by
 obtain⟨Q,HQ⟩:∃Q,Box (Q=rM s.data.toList):=⟨_,⟨rfl⟩⟩
 rw[<-HQ.o]
 go_enter func153,ntmps153
 go_wp2_with fail
 refine(Cz s 34 _).mono ?_
 rintro e w1 ⟨t,q,rfl,hq,rfl⟩
 rcases hq with⟨rfl,hq⟩|⟨rfl,hq,rfl⟩
 ·have HE:Box (Q=bf t.data.toList):=⟨by rw[HQ.o,rM,hq];simp⟩
  have hts:t.size<=1000000:=by
   have:=congrArg List.length hq
   rw[GL,ae,ae]at this
   omega
  clear HQ hq
  go_wp2_with fail
  refine(qI t _ hts).mono ?_
  rintro e w2 ⟨hu,hb2⟩
  rw[<-HE.o]at hu
  cases Q with
  | none=>
   obtain⟨a,b,rfl⟩:=hu
   go_wp2
   go_ret3
   exact⟨⟨a,b,rfl⟩,hb2⟩
  | some p=>
   obtain⟨a,b,rfl,ha,hb⟩:=hu
   have HA:=Box.m ha
   have HB:=Box.m hb
   clear ha hb HE
   go_wp2
   go_ret3
   exact⟨⟨a,b,rfl,HA.o,HB.o⟩,hb2⟩
 ·have HE:Box (Q=if t.data.toList.takeWhile dK=[] then none else some (t.data.toList.takeWhile dK,t.data.toList.dropWhile dK)):=⟨by rw[HQ.o,rM,if_neg hq]⟩
  clear HQ hq
  go_wp2_with fail
  refine(vN t _).mono ?_
  rintro e w2 ⟨a,b,rfl,ha,hb,hb2⟩
  rw[<-ha,<-hb]at HE
  clear ha hb
  by_cases ha0:a.size=0
  ·have he:=dC a ha0
   have HE':Box (Q=none):=⟨by rw[HE.o,if_pos (fZ a ha0)]⟩
   clear HE
   go_wp2
   go_ret3
   exact⟨nJ Q HE'.o _ _ rfl,hb2⟩
  ·have he:=bN a ha0
   have HE':Box (Q=some (a.data.toList,b.data.toList)):=⟨by
    rw[HE.o,if_neg]
    intro h
    exact ha0 (by rw[<-ae,h];rfl)⟩
   clear HE
   go_wp2
   go_ret3
   exact⟨Cs _ _ Q HE'.o _ _ rfl rfl rfl,hb2⟩
def XM(O:Option (PB×aa))(e:Ending):Prop:=
 match O with
 | some q=>∃n v u:ByteArray,e=.returned (.tuple #[.agg #[.string n,.string v],.string u,.bool true])/\(n.data.toList,v.data.toList)=q.1/\u.data.toList=q.2
 | none=>∃n v u:ByteArray,e=.returned (.tuple #[.agg #[.string n,.string v],.string u,.bool false])
theorem Nh(s:ByteArray)(w:World)(hs:s.size<=1000000):
  Calls prog 86 #[.string s] w fun e w'=>XM (xM s.data.toList) e/\Below w.heap.size w w':=by
 obtain⟨O,HO⟩:∃O,Box (O=xM s.data.toList):=⟨_,⟨rfl⟩⟩
 rw[<-HO.o]
 go_enter func86,ntmps86
 go_wp2_with fail
 have b0:Below w.heap.size w (w.alloc (.cells #[.string ⟨#[]⟩,.string ⟨#[]⟩] 125)):=ag.alloc af _
 refine(uD s _).mono ?_
 rintro e w1 ⟨s1,rfl,h1,hb1⟩
 go_wp2_with fail
 refine(vN s1 _).mono ?_
 rintro e w2 ⟨nm,s2,rfl,h2,h3,hb2⟩
 go_wp2_with fail
 refine(uD s2 _).mono ?_
 rintro e w3 ⟨s3,rfl,h4,hb3⟩
 go_wp2_with fail
 refine(Cz s3 61 _).mono ?_
 rintro e w4 ⟨s4,q,rfl,hq,rfl⟩
 have hb13:=(hb1.trans (hb2.mono hb1.size)).trans (hb3.mono (hb1.trans (hb2.mono hb1.size)).size)
 clear hb1 hb2 hb3
 have l1:=dB s.data.toList
 have l2:=wO s1.data.toList
 have l3:=dB s2.data.toList
 rw[<-h1,ae,ae]at l1
 rw[<-h2,<-h3,ae,ae,ae]at l2
 rw[<-h4,ae,ae]at l3
 have HE:Box (O=if nm.data.toList=[] then none else if s3.data.toList.head?=some 61 then qY nm.data.toList (aW (s3.data.toList.drop 1)) else none):=⟨by rw[HO.o,xM,<-h1,<-h2,<-h3,<-h4]⟩
 clear h1 h2 h3 h4 HO
 have hsz:=hb13.size
 have q0:w4.cell? ⟨w.heap.size,0,none⟩=some (.string ⟨#[]⟩):=(hb13.cell (p:=⟨w.heap.size,0,none⟩) (by simp)).trans (by simp)
 have q1:w4.cell? ⟨w.heap.size,1,none⟩=some (.string ⟨#[]⟩):=(hb13.cell (p:=⟨w.heap.size,1,none⟩) (by simp)).trans (by simp)
 have f0:w4.frozen? ⟨w.heap.size,0,none⟩=false:=(hb13.frozen (p:=⟨w.heap.size,0,none⟩) (by simp)).trans (by simp)
 have f1:w4.frozen? ⟨w.heap.size,1,none⟩=false:=(hb13.frozen (p:=⟨w.heap.size,1,none⟩) (by simp)).trans (by simp)
 have b4:Below w.heap.size w w4:=b0.trans (hb13.mono (by simp))
 have hw4:w.heap.size<w4.heap.size:=by simp at hsz;omega
 by_cases hn0:nm.size=0
 ·have he:=dC nm hn0
  have HN:Box (O=none):=⟨by rw[HE.o,if_pos (fZ nm hn0)]⟩
  clear HE hq
  go_wp2
  exact bodyPost_ret (v:=.tuple #[.agg #[.string ⟨#[]⟩,.string ⟨#[]⟩],.string ⟨#[]⟩,.bool false]) (by simp[results,results86,go_sem,q0,q1]) rfl ⟨by rw[HN.o];exact⟨_,_,_,rfl⟩,(b4.setCell af _).setCell af _⟩
 ·have he:=bN nm hn0
  have hne:nm.data.toList≠[]:=fun h=>hn0 (by rw[<-ae,h];rfl)
  rcases hq with⟨rfl,hq⟩|⟨rfl,hq,rfl⟩
  ·have HV:Box (O=qY nm.data.toList (aW s4.data.toList)):=⟨by rw[HE.o,if_neg hne,hq];simp⟩
   have l4:s4.size<=1000000:=by
    have:=congrArg List.length hq
    rw[GL,ae,ae]at this
    omega
   clear HE hq hne
   go_wp2_with fail
   refine(uD s4 _).mono ?_
   rintro e w5 ⟨s5,rfl,h5,hb5⟩
   have l5:=dB s4.data.toList
   rw[<-h5,ae,ae]at l5
   rw[<-h5,Ak]at HV
   clear h5
   go_wp2_with fail
   refine(RX s5 _ (by omega)).mono ?_
   rintro e w6 ⟨hu,hb6⟩
   have hb46:=hb5.trans (hb6.mono hb5.size)
   clear hb5 hb6
   obtain⟨v,s6,ok,rfl,hu'⟩:∃v s6 ok,e=.returned (.tuple #[.string v,.string s6,.bool ok])/\((ok=true/\rM s5.data.toList=some (v.data.toList,s6.data.toList))\/(ok=false/\rM s5.data.toList=none)):=by
    cases hQ:rM s5.data.toList with
    | none=>
     rw[hQ]at hu
     obtain⟨a,b,rfl⟩:=hu
     exact⟨a,b,false,rfl,.inr ⟨rfl,rfl⟩⟩
    | some q=>
     rw[hQ]at hu
     obtain⟨a,b,rfl,ha,hb⟩:=hu
     exact⟨a,b,true,rfl,.inl ⟨rfl,by rw[ha,hb]⟩⟩
   clear hu
   have HU:=Box.m hu'
   clear hu'
   go_wp2_with fail
   refine(iB nm _ (by omega)).mono ?_
   rintro e w7 ⟨nm2,rfl,h7,hb7⟩
   go_wp2_with fail
   refine(uD s6 _).mono ?_
   rintro e w8 ⟨s7,rfl,h8,hb8⟩
   have hb48:=(hb46.trans (hb7.mono hb46.size)).trans (hb8.mono (hb46.trans (hb7.mono hb46.size)).size)
   clear hb46 hb7 hb8
   have r0:w8.cell? ⟨w.heap.size,0,none⟩=some (.string ⟨#[]⟩):=(hb48.cell (p:=⟨w.heap.size,0,none⟩) hw4).trans q0
   have r1:w8.cell? ⟨w.heap.size,1,none⟩=some (.string ⟨#[]⟩):=(hb48.cell (p:=⟨w.heap.size,1,none⟩) hw4).trans q1
   have g0:w8.frozen? ⟨w.heap.size,0,none⟩=false:=(hb48.frozen (p:=⟨w.heap.size,0,none⟩) hw4).trans f0
   have g1:w8.frozen? ⟨w.heap.size,1,none⟩=false:=(hb48.frozen (p:=⟨w.heap.size,1,none⟩) hw4).trans f1
   have b8:Below w.heap.size w w8:=b4.trans (hb48.mono (by omega))
   have HP:Box (XM O (.returned (.tuple #[.agg #[.string nm2,.string v],.string s7,.bool ok]))):=⟨by
    rw[HV.o]
    rcases HU.o with⟨rfl,h⟩|⟨rfl,h⟩
    ·rw[h]
     exact⟨nm2,v,s7,rfl,by rw[h7],h8⟩
    ·rw[h]
     exact⟨nm2,v,s7,rfl⟩⟩
   clear HU HV h7 h8 q0 q1 f0 f1
   go_wp2
   exact bodyPost_ret (v:=.tuple #[.agg #[.string nm2,.string v],.string s7,.bool ok]) (by simp[results,results86,go_sem,r0,r1]) rfl ⟨HP.o,(b8.setCell af _).setCell af _⟩
  ·have HN:Box (O=none):=⟨by rw[HE.o,if_neg hne,if_neg hq]⟩
   clear HE hq hne
   go_wp2
   exact bodyPost_ret (v:=.tuple #[.agg #[.string ⟨#[]⟩,.string ⟨#[]⟩],.string ⟨#[]⟩,.bool false]) (by simp[results,results86,go_sem,q0,q1]) rfl ⟨by rw[HN.o];exact⟨_,_,_,rfl⟩,(b4.setCell af _).setCell af _⟩
theorem Bn(k:Nat):bS k []=some []:=by
 cases k<;>simp[bS]
theorem Dp(k:Nat)(l:aa)(h0:l≠[])(h:l.head?≠some 59):bS k l=none:=by
 cases k with
 | zero=>unfold bS;rw[if_neg h0]
 | succ k=>unfold bS;rw[if_neg h0,if_neg h]
theorem zH(k:Nat)(r:aa)(h:xM r=none):bS k (59::r)=none:=by
 cases k with
 | zero=>unfold bS;rw[if_neg (by simp)]
 | succ k=>
  unfold bS
  rw[if_neg (by simp),aaa,if_pos rfl,ZX,Xu,h];rfl
theorem zY(k:Nat)(r:aa)(p:PB)(u:aa)(h:xM r=some (p,u)):bS (k+1) (59::r)=(bS k u).map fun x=>p::x:=by
 conv=>lhs;unfold bS
 rw[if_neg (by simp),aaa,if_pos rfl,ZX,Xu,h];rfl
def OM(O:Option (aa×List PB))(n B:Nat)(e:Ending)(w':World):Prop:=
 match O with
 | some q=>∃(m:ByteArray) (v:Value) (L:List Fl),e=.returned (.tuple #[.string m,v,.nilIface])/\m.data.toList=q.1/\gu w' B v L/\L.map pb2=q.2/\m.size<=n/\L.length<=n/\∀f∈L,f.1.size<=n/\f.2.size<=n
 | none=>e=.returned (.tuple #[.string ⟨#[]⟩,.slice none 0 0,.iface 25 (.int .i64 3)])
theorem wL{O:Option (aa×List PB)}{n B:Nat}{e:Ending}{w':World}(hO:O=none)(he:e=.returned (.tuple #[.string ⟨#[]⟩,.slice none 0 0,.iface 25 (.int .i64 3)])):OM O n B e w':=by
 subst hO
 exact he
theorem uJ(s:ByteArray)(w:World)(hs:s.size<=100000)(hm:Max w):
  Calls prog 48 #[.string s] w fun e w'=>OM (eO s.data.toList) s.size w.heap.size e w'/\Below w.heap.size w w':=by
 obtain⟨O,HO⟩:∃O,Box (O=eO s.data.toList):=⟨_,⟨rfl⟩⟩
 rw[<-HO.o]
 have HMx:=Box.m hm
 have hw0:=hm.1
 clear hm
 go_enter func48,ntmps48
 go_wp2_with fail
 refine(qL s ⟨#[59]⟩ _ hs HMx.o).mono ?_
 rintro e w1 ⟨a,r0,f,rfl,hc,hal,hrl,hb1⟩
 have hc':=E5 s.data.toList 59
 rw[show(⟨#[59]⟩:ByteArray).data.toList=[59]from rfl,hc']at hc
 simp only[Prod.mk.injEq]at hc
 obtain⟨c1,c2,c3⟩:=hc
 have hrem:s.data.toList.dropWhile (· != 59)=if f then 59::r0.data.toList else []:=by
  rw[<-c2,<-c3]
  rcases BG s.data.toList 59 with⟨_,h2,_⟩|⟨_,r,h2⟩
  ·rw[h2];rfl
  ·rw[h2];rfl
 have hfr:f=true->r0.size+1<=s.size:=by
  intro hf
  have h1:=Ws (p:=(· != 59)) (l:=s.data.toList)
  have h2:=congrArg List.length h1
  rw[VQ,hrem,hf,ae]at h2
  simp only[if_true,GL,ae]at h2
  omega
 clear hc' c2 c3
 go_wp2_with fail
 refine(yQ a _ (by omega)).mono ?_
 rintro e w2 ⟨b,rfl,hb,hb2⟩
 have hbl:=pK a.data.toList
 rw[<-hb,ae,ae]at hbl
 go_wp2_with fail
 refine(iB b _ (by omega)).mono ?_
 rintro e w3 ⟨m,rfl,hmn,hb3⟩
 have hml:m.size=b.size:=by rw[<-ae,hmn];simp[ah]
 have hb13:=(hb1.trans (hb2.mono hb1.size)).trans (hb3.mono (hb1.trans (hb2.mono hb1.size)).size)
 clear hb1 hb2 hb3
 have hsz3:=hb13.size
 go_wp2_with fail
 refine(Fa m _ (by omega) (HMx.o.below hb13 hw0)).mono ?_
 rintro e w4 ⟨rfl,hb4⟩
 have b4:=hb13.trans (hb4.mono hsz3)
 clear hb13 hb4 hsz3
 have hsz4:=b4.size
 have HE:Box (O=if lC m.data.toList then (bS s.size (if f then 59::r0.data.toList else [])).map (fun k=>(m.data.toList,k)) else none):=⟨by
  rw[HO.o,eO,<-hrem,ae,c1,<-hb,<-hmn]⟩
 clear HO hb hmn c1 hrem
 cases him:lC m.data.toList
 ·have HN:Box (O=none):=⟨by rw[HE.o,him];rfl⟩
  clear HE him
  go_wp2
  go_ret3
  exact⟨wL HN.o rfl,b4⟩
 ·have HE':Box (O=(bS s.size (if f then 59::r0.data.toList else [])).map (fun k=>(m.data.toList,k))):=⟨by rw[HE.o,him];rfl⟩
  clear HE him
  go_wp2
  go_loopg [6,7,9] (s.size+1) (fun gf x y v wr=>∃(r:ByteArray) (g:Bool) (acc:List Fl) (k:Nat),x=.string r/\y=.bool g/\gu wr w.heap.size v acc/\Below w.heap.size w wr/\(g=true->r.size+1<=gf/\r.size+1<=k/\r.size+1+acc.length<=s.size)/\acc.length<=s.size/\r.size<=s.size/\Box (∀f∈acc,f.1.size<=s.size/\f.2.size<=s.size)/\Box (O=(bS k (if g then 59::r.data.toList else [])).map (fun x=>(m.data.toList,acc.map pb2++x))))
  case atStart=>exact⟨r0,f,[],s.size,rfl,rfl,gu.nil _ _,b4,fun h=>⟨by have:=hfr h;omega,hfr h,hfr h⟩,aad _,hrl,⟨fun f hf=>absurd hf (by simp)⟩,⟨by rw[HE'.o];simp⟩⟩
  case round=>
   obtain⟨r,g,acc,k,rfl,rfl,hown,hbw,hbd,hacl,hrs,HA,HR⟩:=hrel
   have hsz:=hbw.size
   cases g
   ·have HF:Box (O=some (m.data.toList,acc.map pb2)):=⟨by rw[HR.o];simp[Bn]⟩
    clear HR HE'
    go_wp2
    go_ret3
    refine⟨?_,hbw⟩
    rw[HF.o]
    exact⟨m,_,acc,rfl,rfl,hown,rfl,by omega,hacl,HA.o⟩
   ·obtain⟨d1,d2,d3⟩:=hbd rfl
    have HR':Box (O=(bS k (59::r.data.toList)).map (fun x=>(m.data.toList,acc.map pb2++x))):=⟨by rw[HR.o];simp⟩
    clear HR HE' hbd
    obtain⟨k',hk⟩:∃k',k=k'+1:=⟨k - 1,by omega⟩
    go_wp2_with fail
    refine(Nh r _ (by omega)).mono ?_
    rintro e w5 ⟨hp,hb5⟩
    have b5:=hbw.trans (hb5.mono hsz)
    have hown5:=hown.below hb5 af
    have hsz5:=b5.size
    clear hown hb5
    cases hone:xM r.data.toList with
    | none=>
     rw[hone]at hp
     obtain⟨n1,v1,u1,rfl⟩:=hp
     have HN:Box (O=none):=⟨by rw[HR'.o,zH _ _ hone];rfl⟩
     clear HR' hone
     go_wp2
     go_ret3
     exact⟨wL HN.o rfl,b5.alloc hsz5 _⟩
    | some q=>
     obtain⟨p,u⟩:=q
     rw[hone]at hp
     obtain⟨n1,v1,u1,rfl,hpq,hu⟩:=hp
     simp only at hpq hu
     have hlen:=Ph _ _ _ hone
     rw[<-hpq,<-hu,ae]at hlen
     simp only[ae]at hlen
     have HR2:Box (O=(bS k' u1.data.toList).map (fun x=>(m.data.toList,acc.map pb2++([pb2 (n1,v1)]++x)))):=⟨by
      rw[HR'.o,hk,zY _ _ _ _ hone,<-hu,<-hpq,Option.map_map]
      rfl⟩
     have HA2:Box (∀f∈acc++[(n1,v1)],f.1.size<=s.size/\f.2.size<=s.size):=⟨fun f hf=>by
      rcases List.mem_append.1 hf with h|h
      ·exact HA.o f h
      ·rw[List.mem_singleton.1 h]
       simp only
       omega⟩
     clear HR' hone hpq hu HA
     go_wp2_with (at_builtin;refine Ox ((w5.alloc (.cells #[.string n1,.string v1] 125)).alloc (.cells #[.string n1,.string v1] 125)) w rfl (.tmp 36) (.tmp 38) rfl w.heap.size _ acc rfl (World.ownsRow.alloc (World.ownsRow.alloc hown5 _) _) (w5.heap.size+1) 1 (n1,v1) rfl (by simp) (by simp) (by omega) (by simp;omega) ((b5.alloc hsz5 _).alloc (by simp;omega) _) ?_;intro v6 w6 hown6 hb6)
     refine(Cz u1 59 _).mono ?_
     rintro e w7 ⟨t,q,rfl,hq,rfl⟩
     rcases hq with⟨rfl,hq⟩|⟨rfl,hq,rfl⟩
     ·have hts:t.size+1=u1.size:=by
       have:=congrArg List.length hq
       rw[GL,ae,ae]at this
       omega
      have HR3:Box (O=(bS k' (if true then 59::t.data.toList else [])).map (fun x=>(m.data.toList,(acc++[(n1,v1)]).map pb2++x))):=⟨by
       rw[HR2.o,hq]
       simp⟩
      clear HR2 hq
      go_wp2
      go_roundg (t.size+1)
      case measure=>omega
      case rel=>exact⟨t,true,_,k',rfl,rfl,hown6,hb6,fun _=>⟨aab _,by omega,by rw[VQ];simp;omega⟩,by rw[VQ];simp;omega,by omega,HA2,HR3⟩
     ·by_cases ht0:t.size=0
      ·have he:=dC t ht0
       have HR3:Box (O=(bS k' (if false then 59::t.data.toList else [])).map (fun x=>(m.data.toList,(acc++[(n1,v1)]).map pb2++x))):=⟨by
        rw[HR2.o,fZ t ht0]
        simp⟩
       clear HR2 hq ht0
       go_wp2
       go_roundg 0
       case measure=>omega
       case rel=>exact⟨t,false,_,k',rfl,rfl,hown6,hb6,fun h=>(by cases h),by rw[VQ];simp;omega,by omega,HA2,HR3⟩
      ·have he:=bN t ht0
       have HN:Box (O=none):=⟨by
        rw[HR2.o,Dp _ _ (fun h=>ht0 (by rw[<-ae,h];rfl)) hq];rfl⟩
       clear HR2 hq ht0
       go_wp2
       go_ret3
       exact⟨wL HN.o rfl,hb6⟩
end Go.Proofs.YtkldkhdigkpniaaGreatDoor
