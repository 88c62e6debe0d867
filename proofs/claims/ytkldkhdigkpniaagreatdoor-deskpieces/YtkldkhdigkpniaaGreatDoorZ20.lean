import Derived.Test.YtkldkhdigkpniaaGreatDoorZ8
import Derived.Lib.Split
import Derived.Lib.Join
import Derived.Lib.LastIndexByte
import Derived.Test.YtkldkhdigkpniaaGreatDoorZ6
import Derived.Test.YtkldkhdigkpniaaGreatDoorZ2
set_option maxHeartbeats 4000000
set_option maxRecDepth 100000
open Bool renaming and_eq_true → GL, and_eq_false_iff → VQ, eq_iff_iff → Ws
open List renaming dropWhile_cons → Xu, mem_cons → ZV, take_of_length_le → ZW, length_drop → ZX, cons_append → ZY, mem_cons_self → ZZ, mem_cons_of_mem → Z0, takeWhile_cons → Z4
open Nat renaming zero_le → Z5, lt_succ_self → Z6
namespace Go.Proofs.YtkldkhdigkpniaaGreatDoor
open Go.RowKit Go.Proofs.Tryz
theorem Ru(l:aa)(c:UInt8):Lib.index l [c]=Lib.indexByte l c:=by
 induction l with
 | nil=>rfl
 | cons b l ih=>
  have e:(List.isPrefixOf [c] (b::l))=(c==b):=by simp[List.isPrefixOf]
  rw[Lib.index,Lib.indexByte,ih,e]
  have:(c==b)=(b==c):=by rw[Ws,beq_iff_eq,beq_iff_eq];exact eq_comm
  rw[this]
theorem yB(l:aa)(c:UInt8):(Lib.indexByte l c=-1/\∀d∈l,d≠c)\/∃x y,l=x++c::y/\(∀d∈x,d≠c)/\Lib.indexByte l c=(x.length:Int):=by
 induction l with
 | nil=>exact .inl ⟨rfl,fun d hd=>absurd hd (by simp)⟩
 | cons b l ih=>
  by_cases hb:b=c
  ·subst hb
   exact .inr ⟨[],l,rfl,fun d hd=>absurd hd (by simp),by simp[Lib.indexByte]⟩
  ·have h1:(b==c)=false:=by simpa using hb
   rw[Lib.indexByte,h1]
   rcases ih with⟨i1,i2⟩|⟨x,y,i1,i2,i3⟩
   ·refine .inl ⟨by rw[i1];rfl,fun d hd=>?_⟩
    rcases ZV.1 hd with rfl|hd
    ·exact hb
    ·exact i2 d hd
   ·refine .inr ⟨b::x,y,by rw[i1];rfl,fun d hd=>?_,?_⟩
    ·rcases ZV.1 hd with rfl|hd
     ·exact hb
     ·exact i2 d hd
    ·rw[i3]
     have:((x.length:Int)==-1)=false:=by rw[beq_eq_false_iff_ne];omega
     rw[this,List.length_cons]
     simp
theorem Kr(l:aa)(h:∀d∈l,d≠47):dh l=[l]:=vE l fun hm=>h 47 hm rfl
theorem Ai:∀(n:Nat) (s:ByteArray),s.size<n->(Lib.splitB ⟨#[47]⟩ 0 (Lib.countB s ⟨#[47]⟩) s).map (·.data.toList)=dh s.data.toList
 | 0,s,h=>absurd h (Nat.not_lt_zero _)
 | n+1,s,h=>by
  have hix:Lib.indexB s ⟨#[47]⟩=Lib.indexByte s.data.toList 47:=Ru s.data.toList 47
  rcases yB s.data.toList 47 with⟨h1,h2⟩|⟨x,y,h1,h2,h3⟩
  ·rw[Lib.splitB_miss _ _ _ _ (hix.trans h1),Kr _ h2];rfl
  ·have hi:=hix.trans h3
   have hsz:s.size=x.length+(y.length+1):=by rw[<-ae,h1];simp
   have hy:(s.extract (x.length+1) s.size).data.toList=y:=by
    rw[aB,h1,ZW (by rw[ZX];simp;omega)]
    have:x++47::y=(x++[47])++y:=by simp
    rw[this]
    exact List.drop_left' (by simp)
   have hx:(s.extract 0 (x.length+0)).data.toList=x:=by
    rw[aB,h1]
    simp
   have ih:=Ai n (s.extract (x.length+1) s.size) (by rw[<-ae,hy];omega)
   rw[hy]at ih
   have hc:Lib.countB s ⟨#[47]⟩=Lib.countB (s.extract (x.length+1) s.size) ⟨#[47]⟩+1:=by
    have:=Lib.countB_hit s ⟨#[47]⟩ x.length (by decide) hi
    rw[this,Nat.add_comm];rfl
   rw[hc,Lib.splitB_hit _ _ _ _ x.length hi,List.map_cons,hx]
   have e:(s.extract (x.length+(⟨#[47]⟩:ByteArray).size) s.size)=s.extract (x.length+1) s.size:=rfl
   rw[e,ih,h1,R4 x y (fun hm=>h2 47 hm rfl)]
theorem IZ(s:ByteArray):(Lib.splitB ⟨#[47]⟩ 0 (Lib.countB s ⟨#[47]⟩) s).map (·.data.toList)=dh s.data.toList:=Ai _ s (Z6 _)
theorem BI:∀l:List (aa),Lib.join l [47]=vw l
 | []=>rfl
 | [x]=>Lib.join_one x [47]
 | x::y::r=>by
  have ih:=BI (y::r)
  rw[Lib.join_cons]at ih
  rw[Lib.join_cons,qZ x (y::r) (by simp),<-ih]
  simp[Lib.joinTail]
theorem OQ(c:UInt8):rW c=((decide (65<=c.toNat)&&decide (c.toNat<=90))||(decide (97<=c.toNat)&&decide (c.toNat<=122))):=by
 have key:∀n:Fin 256,rW (UInt8.ofNat n.val)=((decide (65<=(UInt8.ofNat n.val).toNat)&&decide ((UInt8.ofNat n.val).toNat<=90))||(decide (97<=(UInt8.ofNat n.val).toNat)&&decide ((UInt8.ofNat n.val).toNat<=122))):=by decide +kernel
 have:=key ⟨c.toNat,c.toNat_lt⟩
 simpa using this
def KM(c:UInt8):Bool:=decide (48<=c.toNat)&&decide (c.toNat<=57)
def EH(c:UInt8):Bool:=c==43||c==45||c==46
theorem Wz(c:UInt8):vk c=(rW c||KM c||EH c):=by
 unfold vk KM EH
 simp only[Bool.or_assoc]
theorem LD(c:UInt8):decide (0<=Lib.indexByte [43,45,46] c)=EH c:=by
 have key:∀n:Fin 256,decide (0<=Lib.indexByte [43,45,46] (UInt8.ofNat n.val))=EH (UInt8.ofNat n.val):=by decide +kernel
 have:=key ⟨c.toNat,c.toNat_lt⟩
 simpa using this
theorem RQ(c:UInt8)(r:aa):Am (c::r)=(rW c&&(c::r).all vk):=by
 show(rW c&&r.all vk)=(rW c&&(vk c&&r.all vk))
 cases h:rW c
 ·rfl
 ·rw[(IU c h).1];rfl
theorem PM(l:aa)(c:UInt8):xV (l++[c])=if c=47 then l++[c] else xV l:=by
 unfold xV
 rw[List.reverse_append]
 simp only[List.reverse_cons,List.reverse_nil,List.nil_append,List.singleton_append,Xu]
 by_cases h:c=47
 ·subst h;simp
 ·have:(c != 47)=true:=by simpa using h
  rw[if_pos this,if_neg h]
theorem QQ(s:ByteArray)(k:Nat)(h:k<s.size):xV (s.data.toList.take (k+1))=if s[k]=47 then s.data.toList.take (k+1) else xV (s.data.toList.take k):=by
 rw[mR s k h,PM]
theorem Uv(s:ByteArray)(j:Nat)(h:j<s.size):s.data[j]! = s[j]:=by
 have:s.data[j]?=some s[j]:=by
  rw[Array.getElem?_eq_getElem h];rfl
 simp[getElem!_def,this]
theorem Gb(s:ByteArray):∀k,k<=s.size->(Lib.lastIdx s 47 k=-1/\xV (s.data.toList.take k)=[])\/∃i:Nat,i<k/\Lib.lastIdx s 47 k=i/\xV (s.data.toList.take k)=s.data.toList.take (i+1)
 | 0,_=>.inl ⟨rfl,rfl⟩
 | k+1,h=>by
  rw[QQ s k h,Lib.lastIdx,Uv s k h]
  have e:((s[k].toNat:Int)=47)=(s[k]=47):=by
   rw[eq_iff_iff,<-UInt8.toNat_inj]
   constructor
   ·intro h;show s[k].toNat=47;omega
   ·intro h;have:s[k].toNat=47:=h;omega
  simp only[e]
  by_cases h47:s[k]=47
  ·rw[if_pos h47,if_pos h47]
   exact .inr ⟨k,Z6 k,rfl,rfl⟩
  ·rw[if_neg h47,if_neg h47]
   rcases Gb s k (by omega)with⟨a,b⟩|⟨i,a,b,c⟩
   ·exact .inl ⟨a,b⟩
   ·exact .inr ⟨i,by omega,b,c⟩
theorem M8(s:ByteArray):(Lib.lastIndexByte s 47=-1/\xV s.data.toList=[])\/∃i:Nat,i<s.size/\Lib.lastIndexByte s 47=i/\xV s.data.toList=s.data.toList.take (i+1):=by
 have:=Gb s s.size af
 rw[pV s s.size (Nat.lt_irrefl _)]at this
 exact this
def gX(o:List (aa))(f:Bool)(x:aa)(last:Bool):List (aa):=
 if x=[]/\last=false/\f=false then o else if x≠dot/\x≠gP then o++[x]
 else if last then (if x=gP then tq o else o)++[[]] else if x=gP then tq o else o
theorem Cv(o:List (aa))(f:Bool)(x:aa)(r:List (aa)):iL o f (x::r)=iL (gX o f x r.isEmpty) false r:=by
 conv=>lhs;unfold iL
 unfold gX
 cases r with
 | nil=>
  by_cases hd:x≠dot/\x≠gP
  ·simp[hd,iL]
  ·simp[hd,iL]
 | cons y r=>
  by_cases h1:x=[]/\f=false
  ·simp[h1]
  ·by_cases hd:x≠dot/\x≠gP
   ·simp[h1,hd]
   ·simp[h1,hd]
def vZ(o:List (aa)):Prop:=∀x∈o.tail,x≠[]
theorem Jy{o:List (aa)}(h:vZ o):vZ (tq o):=by
 unfold tq
 split
 ·exact h
 ·intro x hx
  rw[List.tail_dropLast]at hx
  exact h x (List.dropLast_subset _ hx)
theorem H9{o:List (aa)}{f:Bool}{x:aa}(h:vZ o)(h0:f=true->o=[]):vZ (gX o f x false):=by
 unfold gX
 by_cases h1:x=[]/\f=false
 ·simpa[h1]using h
 ·by_cases hd:x≠dot/\x≠gP
  ·have:¬(x=[]/\false=false/\f=false):=fun hh=>h1 ⟨hh.1,hh.2.2⟩
   rw[if_neg this,if_pos hd]
   cases o with
   | nil=>intro y hy;simp at hy
   | cons a o=>
    have hf:f=false:=by
     cases f with
     | false=>rfl
     | true=>exact absurd (h0 rfl) (by simp)
    intro y hy
    simp only[ZY,List.tail_cons]at hy
    rcases List.mem_append.1 hy with hy|hy
    ·exact h y hy
    ·rw[List.mem_singleton.1 hy]
     exact fun e=>h1 ⟨e,hf⟩
  ·have:¬(x=[]/\false=false/\f=false):=fun hh=>h1 ⟨hh.1,hh.2.2⟩
   rw[if_neg this,if_neg hd]
   simp only[Bool.false_eq_true,if_false]
   split
   ·exact Jy h
   ·exact h
def upP(o:List (aa)):List (aa):=if o=[]\/o.getLast?=some [] then o else o.dropLast
theorem Wp{o:List (aa)}(h:vZ o):upP o=tq o:=by
 unfold upP tq
 cases o with
 | nil=>rfl
 | cons a o=>
  cases o with
  | nil=>by_cases ha:a=[]<;>simp[ha]
  | cons b o=>
   have hl:(a::b::o).getLast?≠some []:=by
    intro e
    rw[List.getLast?_cons_cons]at e
    exact h [] (List.mem_of_getLast? e) rfl
   have h1:¬(a::b::o=[]\/(a::b::o).getLast?=some []):=by
    rintro(e|e)
    ·cases e
    ·exact hl e
   rw[if_neg h1,if_neg (by simp)]
structure AV where
 sc:ByteArray
 hA:Bool
 au:ByteArray
 pa:ByteArray
 hQ:Bool
 qu:ByteArray
 hF:Bool
 fr:ByteArray
abbrev AV.val(a:AV):Value:=.agg #[.string a.sc,.bool a.hA,.string a.au,.string a.pa,.bool a.hQ,.string a.qu,.bool a.hF,.string a.fr]
def AV.ab(a:AV):AB:=⟨a.sc.data.toList,a.hA,a.au.data.toList,a.pa.data.toList,a.hQ,a.qu.data.toList,a.hF,a.fr.data.toList⟩
structure AV.Small(a:AV)(n:Nat):Prop where
 sc:a.sc.size<=n
 au:a.au.size<=n
 pa:a.pa.size<=n
 qu:a.qu.size<=n
 fr:a.fr.size<=n
theorem lK{sc au pa qu fr:ByteArray}{hA hQ hF:Bool}{n:Nat}(h0:sc.size<=n)(h1:au.size<=n)(h2:pa.size<=n)(h3:qu.size<=n)(h4:fr.size<=n):AV.Small ⟨sc,hA,au,pa,hQ,qu,hF,fr⟩ n:=⟨h0,h1,h2,h3,h4⟩
theorem BX{a b:AV}(h:a.ab=b.ab):a=b:=by
 obtain⟨a0,a1,a2,a3,a4,a5,a6,a7⟩:=a
 obtain⟨b0,b1,b2,b3,b4,b5,b6,b7⟩:=b
 simp only[AV.ab,AB.mk.injEq]at h
 obtain⟨h0,h1,h2,h3,h4,h5,h6,h7⟩:=h
 rw[aF h0,h1,aF h2,aF h3,h4,aF h5,h6,aF h7]
def AV.of(a:AB):AV:=⟨⟨a.sch.toArray⟩,a.hasA,⟨a.auth.toArray⟩,⟨a.path.toArray⟩,a.hasQ,⟨a.query.toArray⟩,a.hasF,⟨a.frag.toArray⟩⟩
theorem nS(a:AB):(AV.of a).ab=a:=by cases a;simp[AV.of,AV.ab]
theorem ZB(a:AV):AV.of a.ab=a:=BX (nS _)
theorem KY(sc au pa qu fr:ByteArray)(hA hQ hF:Bool)(w:World)(s0:sc.size<=1000000)(s1:au.size<=1000000)(s2:pa.size<=1000000)(s3:qu.size<=1000000)(s4:fr.size<=1000000):
  Calls prog 42 #[.agg #[.string sc,.bool hA,.string au,.string pa,.bool hQ,.string qu,.bool hF,.string fr]] w fun e w'=>∃S:ByteArray,e=.returned (.string S)/\S.data.toList=bQ (AV.ab ⟨sc,hA,au,pa,hQ,qu,hF,fr⟩)/\Below w.heap.size w w':=by
 have hb:=(Below.refl w.heap.size w).alloc af (.cells #[.string sc,.bool hA,.string au,.string pa,.bool hQ,.string qu,.bool hF,.string fr] 60)
 by_cases h0:sc.size=0
 ·have he:sc.toList.isEmpty=true:=dC sc h0
  have HE:Box (sc.data.toList=[]):=⟨fZ sc h0⟩
  clear h0
  cases hA<;>cases hQ<;>cases hF
  all_goals
   go_enter func42,ntmps42
   go_wp2
   go_ret
   exact⟨_,rfl,by simp[bQ,AV.ab,HE.o],hb⟩
 ·have he:sc.toList.isEmpty=false:=bN sc h0
  have HE:Box (¬sc.data.toList=[]):=⟨fun e=>h0 (by rw[<-ae,e];rfl)⟩
  clear h0
  cases hA<;>cases hQ<;>cases hF
  all_goals
   go_enter func42,ntmps42
   go_wp2
   go_ret
   exact⟨_,rfl,by simp[bQ,AV.ab,HE.o],hb⟩
theorem V4(c:UInt8)(h:rW c=false):(c.toNat:Int)<65\/(90<(c.toNat:Int)/\(c.toNat:Int)<97)\/122<(c.toNat:Int):=by
 rw[OQ]at h
 simp only[Bool.or_eq_false_iff,VQ,decide_eq_false_iff_not]at h
 omega
theorem Su(c:UInt8)(h:rW c=true):(65<=(c.toNat:Int)/\(c.toNat:Int)<=90)\/(97<=(c.toNat:Int)/\(c.toNat:Int)<=122):=by
 rw[OQ]at h
 simp only[Bool.or_eq_true,GL,decide_eq_true_eq]at h
 omega
theorem Wd(c:UInt8)(h:KM c=false):(c.toNat:Int)<48\/57<(c.toNat:Int):=by
 simp only[KM,VQ,decide_eq_false_iff_not]at h
 omega
theorem UI(c:UInt8)(h:KM c=true):48<=(c.toNat:Int)/\(c.toNat:Int)<=57:=by
 simp only[KM,GL,decide_eq_true_eq]at h
 omega
theorem bX(c:UInt8)(q:Bool)(hq:rW c=q)(w:World):Calls prog 204 #[.int .u8 (c.toNat:Int)] w fun e w'=>e=.returned (.bool q)/\w'=w:=by
 cases q
 ·rcases V4 c hq with h|⟨h1,h2⟩|h
  ·have h3:¬(65:Int)<=(c.toNat:Int):=by omega
   have h4:¬(97:Int)<=(c.toNat:Int):=by omega
   clear hq h
   go_enter func204,ntmps204
   go_wp2
   go_ret
   exact⟨rfl,rfl⟩
  ·have h3:(65:Int)<=(c.toNat:Int):=by omega
   have h4:¬(c.toNat:Int)<=90:=by omega
   have h5:¬(97:Int)<=(c.toNat:Int):=by omega
   clear hq h1 h2
   go_enter func204,ntmps204
   go_wp2
   go_ret
   exact⟨rfl,rfl⟩
  ·have h3:(65:Int)<=(c.toNat:Int):=by omega
   have h4:¬(c.toNat:Int)<=90:=by omega
   have h5:(97:Int)<=(c.toNat:Int):=by omega
   have h6:¬(c.toNat:Int)<=122:=by omega
   clear hq h
   go_enter func204,ntmps204
   go_wp2
   go_ret
   exact⟨rfl,rfl⟩
 ·rcases Su c hq with⟨h1,h2⟩|⟨h1,h2⟩
  ·clear hq
   go_enter func204,ntmps204
   go_wp2
   go_ret
   exact⟨rfl,rfl⟩
  ·have h3:(65:Int)<=(c.toNat:Int):=by omega
   have h4:¬(c.toNat:Int)<=90:=by omega
   clear hq
   go_enter func204,ntmps204
   go_wp2
   go_ret
   exact⟨rfl,rfl⟩
theorem uo(c:UInt8)(q:Bool)(hq:KM c=q)(w:World):Calls prog 205 #[.int .u8 (c.toNat:Int)] w fun e w'=>e=.returned (.bool q)/\w'=w:=by
 cases q
 ·rcases Wd c hq with h|h
  ·have h3:¬(48:Int)<=(c.toNat:Int):=by omega
   clear hq h
   go_enter func205,ntmps205
   go_wp2
   go_ret
   exact⟨rfl,rfl⟩
  ·have h3:(48:Int)<=(c.toNat:Int):=by omega
   have h4:¬(c.toNat:Int)<=57:=by omega
   clear hq h
   go_enter func205,ntmps205
   go_wp2
   go_ret
   exact⟨rfl,rfl⟩
 ·obtain⟨h1,h2⟩:=UI c hq
  clear hq
  go_enter func205,ntmps205
  go_wp2
  go_ret
  exact⟨rfl,rfl⟩
theorem Sc(s:ByteArray)(k:Nat)(h:k<s.size):s.extract k (k+1)=⟨#[s[k]]⟩:=by
 apply aF
 rw[aB,Nat.add_sub_cancel_left,List.take_one,List.head?_drop,xU s k h]
 rfl
theorem KA(s:ByteArray)(k:Nat)(h:k<s.size)(q:Bool)(hq:EH s[k]=q)(w:World):Calls prog 126 #[.string ⟨#[43,45,46]⟩,.string (s.extract k (k+1))] w fun e w'=>e=.returned (.bool q)/\w'=w:=by
 rw[Sc s k h]
 refine(Tryz.strings_Contains_one ⟨#[43,45,46]⟩ s[k] w).mono ?_
 rintro e w' ⟨rfl,rfl⟩
 exact⟨aN ((LD s[k]).trans hq),rfl⟩
theorem UG(c:UInt8)(h:yx c=true):¬(c.toNat:Int)<33/\¬126<(c.toNat:Int):=by
 simp only[yx,GL,decide_eq_true_eq]at h
 omega
theorem WR(c:UInt8)(h:yx c=false):(c.toNat:Int)<33\/(¬(c.toNat:Int)<33/\126<(c.toNat:Int)):=by
 simp only[yx,VQ,decide_eq_false_iff_not]at h
 omega
theorem x8(s:ByteArray)(w:World)(hl:s.size<=1000000)(q:Bool)(hq:s.data.toList.all yx=q):
  Calls prog 141 #[.string s] w fun e w'=>e=.returned (.bool q)/\w'=w:=by
 have HQ:=Box.m hq
 clear hq
 go_enter func141,ntmps141
 go_wp2
 go_loop [6] (fun i=>∃k:Nat,k<=s.size/\i=.int .i64 k/\Box ((s.data.toList.take k).all yx=true)) (fun i=>s.size - (intOf i).toNat)
 case atStart=>exact⟨0,Z5 _,rfl,⟨rfl⟩⟩
 case round=>
  obtain⟨k,hk,rfl,HA⟩:=hrel
  by_cases hlt:k<s.size
  ·cases hc:yx s[k]
   ·have HF:Box (q=false):=⟨by rw[<-HQ.o];exact yc s k hlt hc⟩
    have hx:=WR _ hc
    clear hc HA HQ
    rcases hx with x1|⟨x1,x2⟩
    all_goals
     go_wp2
     go_ret
     exact⟨aN HF.o.symm,rfl⟩
   ·have HA':Box ((s.data.toList.take (k+1)).all yx=true):=⟨sV s k hlt HA.o hc⟩
    obtain⟨x1,x2⟩:=UG _ hc
    clear hc HA HQ
    go_wp2
    go_round
    case rel=>exact⟨k+1,by omega,by go_num,HA'⟩
    case measure=>simp[intOf];omega
  ·have HF:Box (q=true):=⟨by rw[<-HQ.o,<-pV s k hlt];exact HA.o⟩
   clear HA HQ
   go_wp2
   go_ret
   exact⟨aN HF.o.symm,rfl⟩
theorem xO(s:ByteArray)(w:World)(hl:s.size<=1000000)(q:Bool)(hq:Am s.data.toList=q):
  Calls prog 142 #[.string s] w fun e w'=>e=.returned (.bool q)/\w'=w:=by
 have HQ:=Box.m hq
 clear hq
 by_cases h0:s.size=0
 ·have HF:Box (q=false):=⟨by rw[<-HQ.o,fZ s h0];rfl⟩
  have he:=dC s h0
  clear HQ
  go_enter func142,ntmps142
  go_wp2
  go_ret
  exact⟨aN HF.o.symm,rfl⟩
 ·have he:=bN s h0
  have hp:0<s.size:=by omega
  have HS:Box (q=(rW s[0]&&s.data.toList.all vk)):=⟨by rw[<-HQ.o,wh s hp,RQ]⟩
  clear HQ
  cases hc0:rW s[0]
  ·have HF:Box (q=false):=⟨by rw[HS.o,hc0];rfl⟩
   clear HS
   go_enter func142,ntmps142
   go_wp2_with fail
   refine(bX s[0] false hc0 _).mono ?_
   rintro e w1 ⟨rfl,rfl⟩
   go_wp2
   go_ret
   exact⟨aN HF.o.symm,rfl⟩
  ·have HF:Box (q=s.data.toList.all vk):=⟨by rw[HS.o,hc0];rfl⟩
   clear HS
   go_enter func142,ntmps142
   go_wp2_with fail
   refine(bX s[0] true hc0 _).mono ?_
   rintro e w1 ⟨rfl,rfl⟩
   go_wp2
   go_loop [14] (fun i=>∃k:Nat,k<=s.size/\i=.int .i64 k/\Box ((s.data.toList.take k).all vk=true)) (fun i=>s.size - (intOf i).toNat)
   case atStart=>exact⟨0,Z5 _,rfl,⟨rfl⟩⟩
   case round=>
    obtain⟨k,hk,rfl,HA⟩:=hrel
    by_cases hlt:k<s.size
    ·have HC:=Box.m (Wz s[k])
     cases hc:rW s[k]
     ·cases hd:KM s[k]
      ·cases hp:EH s[k]
       ·have HE:Box (q=false):=⟨by rw[HF.o];exact yc s k hlt (by rw[HC.o,hc,hd,hp];rfl)⟩
        clear HC HF HA
        go_wp2_with fail
        refine(bX s[k] false hc _).mono ?_
        rintro e w1 ⟨rfl,rfl⟩
        go_wp2_with fail
        refine(uo s[k] false hd _).mono ?_
        rintro e w1 ⟨rfl,rfl⟩
        go_wp2_with fail
        refine(KA s k hlt false hp _).mono ?_
        rintro e w1 ⟨rfl,rfl⟩
        go_wp2
        go_ret
        exact⟨aN HE.o.symm,rfl⟩
       ·have HA':Box ((s.data.toList.take (k+1)).all vk=true):=⟨sV s k hlt HA.o (by rw[HC.o,hc,hd,hp];rfl)⟩
        clear HC HF HA
        go_wp2_with fail
        refine(bX s[k] false hc _).mono ?_
        rintro e w1 ⟨rfl,rfl⟩
        go_wp2_with fail
        refine(uo s[k] false hd _).mono ?_
        rintro e w1 ⟨rfl,rfl⟩
        go_wp2_with fail
        refine(KA s k hlt true hp _).mono ?_
        rintro e w1 ⟨rfl,rfl⟩
        go_wp2
        go_round
        case rel=>exact⟨k+1,by omega,by go_num,HA'⟩
        case measure=>simp[intOf];omega
      ·have HA':Box ((s.data.toList.take (k+1)).all vk=true):=⟨sV s k hlt HA.o (by rw[HC.o,hc,hd];rfl)⟩
       clear HC HF HA
       go_wp2_with fail
       refine(bX s[k] false hc _).mono ?_
       rintro e w1 ⟨rfl,rfl⟩
       go_wp2_with fail
       refine(uo s[k] true hd _).mono ?_
       rintro e w1 ⟨rfl,rfl⟩
       go_wp2
       go_round
       case rel=>exact⟨k+1,by omega,by go_num,HA'⟩
       case measure=>simp[intOf];omega
     ·have HA':Box ((s.data.toList.take (k+1)).all vk=true):=⟨sV s k hlt HA.o (by rw[HC.o,hc];rfl)⟩
      clear HC HF HA
      go_wp2_with fail
      refine(bX s[k] true hc _).mono ?_
      rintro e w1 ⟨rfl,rfl⟩
      go_wp2
      go_round
      case rel=>exact⟨k+1,by omega,by go_num,HA'⟩
      case measure=>simp[intOf];omega
    ·have HE:Box (q=true):=⟨by rw[HF.o,<-pV s k hlt];exact HA.o⟩
     clear HA HF
     go_wp2
     go_ret
     exact⟨aN HE.o.symm,rfl⟩
theorem Mv(l:aa)(h:∀d∈l,d≠47):l.takeWhile (· != 47)=l/\l.dropWhile (· != 47)=[]:=by
 induction l with
 | nil=>exact⟨rfl,rfl⟩
 | cons c l ih=>
  have hc:(c != 47)=true:=by simpa using h c ZZ
  obtain⟨i1,i2⟩:=ih fun d hd=>h d (Z0 _ hd)
  rw[Z4,Xu,if_pos hc,if_pos hc,i1,i2]
  exact⟨rfl,rfl⟩
theorem Mk(x y:aa)(h:∀d∈x,d≠47):(x++47::y).takeWhile (· != 47)=x/\(x++47::y).dropWhile (· != 47)=47::y:=by
 induction x with
 | nil=>exact⟨rfl,rfl⟩
 | cons c l ih=>
  have hc:(c != 47)=true:=by simpa using h c ZZ
  obtain⟨i1,i2⟩:=ih fun d hd=>h d (Z0 _ hd)
  rw[ZY,Z4,Xu,if_pos hc,if_pos hc,i1,i2]
  exact⟨rfl,rfl⟩
theorem EF(s:ByteArray)(w:World):
  Calls prog 143 #[.string s] w fun e w'=>∃x y:ByteArray,e=.returned (.tuple #[.string x,.string y])/\x.data.toList=s.data.toList.takeWhile (· != 47)/\y.data.toList=s.data.toList.dropWhile (· != 47)/\x.size<=s.size/\y.size<=s.size/\w'=w.drew:=by
 rcases yB s.data.toList 47 with⟨h1,h2⟩|⟨x,y,h1,h2,h3⟩
 ·obtain⟨t1,t2⟩:=Mv _ h2
  have T1:=Box.m t1
  have T2:=Box.m t2
  clear t1 t2 h2
  go_enter func143,ntmps143
  go_wp2_with fail
  refine(Tryz.strings_IndexByte s 47 _).mono ?_
  rintro e w1 ⟨rfl,rfl⟩
  rw[show((47:Int).toNat.toUInt8)=47 from rfl,h1]
  go_wp2
  go_region
  go_wp2
  go_ret2
  refine⟨_,_,rfl,?_,?_,?_,?_,rfl⟩
  ·exact T1.o.symm
  ·exact T2.o.symm
  ·simp
  ·simp
 ·obtain⟨t1,t2⟩:=Mk x y h2
  rw[<-h1]at t1 t2
  have hsz:s.size=x.length+(y.length+1):=by rw[<-ae,h1];simp
  obtain⟨n,hn⟩:∃n,n=x.length:=⟨_,rfl⟩
  rw[<-hn]at h3 hsz
  have hln:n<=s.size:=by omega
  have T1:Box ((s.extract 0 n).data.toList=s.data.toList.takeWhile (· != 47)):=⟨by rw[t1,aB,h1,hn];simp⟩
  have T2:Box ((s.extract n s.size).data.toList=s.data.toList.dropWhile (· != 47)):=⟨by
   rw[t2,aB,h1,hn,List.drop_left,ZW (by simp;omega)]⟩
  clear t1 t2 h2 hsz h1
  go_enter func143,ntmps143
  go_wp2_with fail
  refine(Tryz.strings_IndexByte s 47 _).mono ?_
  rintro e w1 ⟨rfl,rfl⟩
  rw[show((47:Int).toNat.toUInt8)=47 from rfl,h3]
  clear h3 hn
  go_wp2
  go_region
  go_wp2
  go_ret2
  refine⟨_,_,rfl,T1.o,T2.o,?_,?_,rfl⟩
  ·simp;omega
  ·simp
theorem UF(s:ByteArray)(c:UInt8)(w:World)(hs:s.size<=1000000)(hm:Max w):
  Calls prog 30 #[.string s,.string ⟨#[c]⟩] w fun e w'=>∃a b f,e=.returned (.tuple #[.string a,.string b,.bool f])/\Lib.cut s.data.toList [c]=(a.data.toList,b.data.toList,f)/\a.size<=s.size/\b.size<=s.size/\∃n,w'=w.drewN n:=by
 obtain⟨_,m,hm⟩:=hm
 refine(Tryz.strings_Cut s ⟨#[c]⟩ m w (by omega) hm).mono ?_
 rintro e w' ⟨rfl,n,rfl⟩
 have hsz:=ae s
 refine⟨_,_,_,rfl,rfl,?_,?_,n,rfl⟩
 ·rw[gm]
  rcases jX s.data.toList [c]with⟨_,h⟩|⟨_,h,_⟩
  ·show(Lib.cut s.data.toList [c]).1.length<=_;omega
  ·show(Lib.cut s.data.toList [c]).1.length<=_;rw[h];omega
 ·rw[gm]
  rcases jX s.data.toList [c]with⟨_,h⟩|⟨_,_,h⟩
  ·show(Lib.cut s.data.toList [c]).2.1.length<=_;omega
  ·show(Lib.cut s.data.toList [c]).2.1.length<=_;rw[h];simp
theorem Ra(t:aa):Lib.hasPrefix t [47,47]=decide (t.take 2=[47,47]):=by
 unfold Lib.hasPrefix
 cases t with
 | nil=>rfl
 | cons a t=>
  cases t with
  | nil=>simp[List.isPrefixOf]
  | cons b t=>
   rw[Ws]
   simp only[List.isPrefixOf,GL,beq_iff_eq,decide_eq_true_eq,List.take_succ_cons,List.take_zero,List.cons.injEq,and_true]
   constructor
   ·rintro⟨rfl,rfl⟩;exact⟨rfl,rfl⟩
   ·rintro⟨rfl,rfl⟩;exact⟨rfl,rfl⟩
theorem wN(s:ByteArray)(w:World):
  Calls prog 87 #[.string s,.string ⟨#[47,47]⟩] w fun e w'=>∃(r:ByteArray) (q:Bool),e=.returned (.tuple #[.string r,.bool q])/\q=decide (s.data.toList.take 2=[47,47])/\(q=true->r.data.toList=s.data.toList.drop 2)/\r.size<=s.size/\w'=w:=by
 refine(Tryz.strings_CutPrefix s ⟨#[47,47]⟩ w).mono ?_
 rintro e w' ⟨rfl,rfl⟩
 have hsz:=ae s
 refine⟨_,_,rfl,Ra _,fun hq=>?_,?_,rfl⟩
 ·show Lib.trimPrefix s.data.toList [47,47]=_
  unfold Lib.trimPrefix
  have hq':Lib.hasPrefix s.data.toList [47,47]=true:=hq
  rw[if_pos hq']
  rfl
 ·rw[gm]
  show(Lib.trimPrefix s.data.toList [47,47]).length<=_
  unfold Lib.trimPrefix
  split
  ·rw[ZX];omega
  ·omega
abbrev Ba:AV:=⟨⟨#[]⟩,false,⟨#[]⟩,⟨#[]⟩,false,⟨#[]⟩,false,⟨#[]⟩⟩
abbrev sW:Obj:=.cells #[.string ⟨#[]⟩,.bool false,.string ⟨#[]⟩,.string ⟨#[]⟩,.bool false,.string ⟨#[]⟩,.bool false,.string ⟨#[]⟩] 60
theorem Jp(w:World)(N:Nat)(cs:Array Value)(B:Obj):(((w.drewN N).alloc (.cells cs 60)).alloc B).heap[w.heap.size]?=some (.cells cs 60):=by
 rw[Below.heap_alloc _ _ _ (by simp)]
 show(w.heap.push _)[w.heap.size]?=_
 simp
theorem kY(w:World):∀(N:Nat) (cs:Array Value) (B:Obj) (i:Nat),(((w.drewN N).alloc (.cells cs 60)).alloc B).frozen? ⟨w.heap.size,i,none⟩=false:=by
 intro N cs B i
 simp[World.frozen?,Jp w N cs B]
theorem qp(w:World):∀(N:Nat) (cs:Array Value) (B:Obj) (i:Nat),(((w.drewN N).alloc (.cells cs 60)).alloc B).cell? ⟨w.heap.size,i,none⟩=cs[i]?:=by
 intro N cs B i
 simp[World.cell?,Jp w N cs B]
theorem uP(w:World):∀(N:Nat) (cs:Array Value) (i:Nat) (v:Value),((w.drewN N).alloc (.cells cs 60)).setCell ⟨w.heap.size,i,none⟩ v=(w.drewN N).alloc (.cells (cs.setIfInBounds i v) 60):=by
 intro N cs i v
 exact World.setCell_alloc_at cs _ _ i v rfl
theorem ql(w:World)(N:Nat)(cs:Array Value)(i:Nat):((w.drewN N).alloc (.cells cs 60)).cell? ⟨w.heap.size,i,none⟩=cs[i]?:=by
 have h:((w.drewN N).alloc (.cells cs 60)).heap[w.heap.size]?=some (.cells cs 60 (0,0)):=by
  show(w.heap.push _)[w.heap.size]?=_
  simp
 simp only[World.cell?,h]
 rfl
def YG(l:aa)(n:Nat)(e:Ending):Prop:=(bM l=none/\e=.returned (.tuple #[Ba.val,.iface 25 (.int .i64 3)]))\/∃v:AV,bM l=some v.ab/\v.Small n/\e=.returned (.tuple #[v.val,.nilIface])
theorem Wv{w:World}(hm:Max w)(A B:Obj):Max ((w.alloc A).alloc B):=hm.below (((Below.refl w.heap.size w).alloc af _).alloc (by simp) _) hm.1
theorem Ca(s:ByteArray)(c:UInt8)(w:World)(A B:Obj)(hs:s.size<=1000000)(hm:Max w):
  Calls prog 30 #[.string s,.string ⟨#[c]⟩] ((w.alloc A).alloc B) fun e w'=>∃a b f,e=.returned (.tuple #[.string a,.string b,.bool f])/\Lib.cut s.data.toList [c]=(a.data.toList,b.data.toList,f)/\a.size<=s.size/\b.size<=s.size/\∃n,w'=((w.drewN n).alloc A).alloc B:=by
 refine(UF s c _ hs (Wv hm A B)).mono ?_
 rintro e w' ⟨a,b,f,h1,h2,h3,h4,n,rfl⟩
 exact⟨a,b,f,h1,h2,h3,h4,n,rfl⟩
theorem o7(s:ByteArray)(w:World)(A B:Obj):
  Calls prog 143 #[.string s] ((w.alloc A).alloc B) fun e w'=>∃x y:ByteArray,e=.returned (.tuple #[.string x,.string y])/\x.data.toList=s.data.toList.takeWhile (· != 47)/\y.data.toList=s.data.toList.dropWhile (· != 47)/\x.size<=s.size/\y.size<=s.size/\w'=((w.drewN 1).alloc A).alloc B:=by
 refine(EF s _).mono ?_
 rintro e w' ⟨x,y,h1,h2,h3,h4,h5,rfl⟩
 exact⟨x,y,h1,h2,h3,h4,h5,rfl⟩
theorem jW{s s1 fr s2 qu sc re s3:ByteArray}{hF hQ ok:Bool}(h0:s.data.toList.all yx=true)(h1:Lib.cut s.data.toList [35]=(s1.data.toList,fr.data.toList,hF))(h2:Lib.cut s1.data.toList [63]=(s2.data.toList,qu.data.toList,hQ))
  (h3:Lib.cut s2.data.toList [58]=(sc.data.toList,re.data.toList,ok)) (S:ByteArray) (h4:(ok=true/\Am sc.data.toList=true/\S=sc/\s3=re)\/((ok=false\/(ok=true/\Am sc.data.toList=false))/\S=⟨#[]⟩/\s3=s2))
  (q:Bool) (au pa:ByteArray) (h5:q=decide (s3.data.toList.take 2=[47,47])) (h6:(q=false/\au=⟨#[]⟩/\pa=s3)\/(q=true/\au.data.toList=(s3.data.toList.drop 2).takeWhile (· != 47)/\pa.data.toList=(s3.data.toList.drop 2).dropWhile (· != 47))) :
  bM s.data.toList=some (AV.ab ⟨S,q,au,pa,hQ,qu,hF,fr⟩):=by
 have hs:Cj s2.data.toList=(S.data.toList,s3.data.toList):=by
  unfold Cj
  rw[h3]
  rcases h4 with⟨rfl,h,rfl,rfl⟩|⟨rfl|⟨rfl,h⟩,rfl,rfl⟩
  ·simp[h]
  ·simp
  ·simp[h]
 have ha:wP s3.data.toList=(q,au.data.toList,pa.data.toList):=by
  unfold wP
  rcases h6 with⟨rfl,rfl,rfl⟩|⟨rfl,e1,e2⟩
  ·have:¬pa.data.toList.take 2=[47,47]:=by simpa using h5.symm
   rw[if_neg this]
  ·have:s3.data.toList.take 2=[47,47]:=by simpa using h5.symm
   rw[if_pos this,e1,e2]
 unfold bM
 rw[if_pos h0]
 simp only[h1,h2,hs,ha,AV.ab]
theorem QV(s:ByteArray)(w:World)(hs:s.size<=1000000)(hm:Max w):
  Calls prog 82 #[.string s] w fun e w'=>YG s.data.toList s.size e/\Below w.heap.size w w':=by
 have HMx:=Box.m hm
 have hw0:=hm.1
 clear hm
 cases h0:s.data.toList.all yx
 ·have HE:Box (bM s.data.toList=none):=⟨by unfold bM;rw[h0];rfl⟩
  go_enter func82,ntmps82
  go_wp2_with fail
  refine(x8 s _ hs false h0).mono ?_
  rintro e w1 ⟨rfl,rfl⟩
  clear h0
  go_wp2
  exact bodyPost_ret (v:=.tuple #[Ba.val,.iface 25 (.int .i64 3)]) (by simp[results,results82,go_sem]) rfl ⟨.inl ⟨HE.o,rfl⟩,ag.alloc af _⟩
 ·have H0:=Box.m h0
  go_enter func82,ntmps82
  go_wp2_with fail
  refine(x8 s _ hs true h0).mono ?_
  rintro e w1 ⟨rfl,rfl⟩
  clear h0
  go_wp2_with fail
  refine(Ca s 35 w _ _ hs HMx.o).mono ?_
  rintro e w1 ⟨s1,fr,hF,rfl,h1,z1,z2,n1,rfl⟩
  have H1:=Box.m h1
  clear h1
  go_wp2_with fail
  refine(Ca s1 63 (w.drewN n1) _ _ (by omega) HMx.o).mono ?_
  rintro e w1 ⟨s2,qu,hQ,rfl,h2,z3,z4,n2,rfl⟩
  have H2:=Box.m h2
  clear h2
  go_wp2_with fail
  refine(Ca s2 58 (w.drewN (n1+n2)) _ _ (by omega) HMx.o).mono ?_
  rintro e w1 ⟨sc,re,ok,rfl,h3,z5,z6,n3,rfl⟩
  have H3:=Box.m h3
  clear h3
  cases ok
  ·go_wp2_with fail
   refine(wN s2 _).mono ?_
   rintro e w1 ⟨r,q,rfl,h5,h6,z7,rfl⟩
   cases q
   ·have HE:Box (bM s.data.toList=some (AV.ab ⟨⟨#[]⟩,false,⟨#[]⟩,s2,hQ,qu,hF,fr⟩)):=⟨jW H0.o H1.o H2.o H3.o ⟨#[]⟩ (.inr ⟨.inl rfl,rfl,rfl⟩) false ⟨#[]⟩ s2 h5 (.inl ⟨rfl,rfl,rfl⟩)⟩
    have HZ:Box (AV.Small ⟨⟨#[]⟩,false,⟨#[]⟩,s2,hQ,qu,hF,fr⟩ s.size):=⟨lK (by first|omega|exact Z5 _) (Z5 _) (by omega) (by omega) (by omega)⟩
    clear h5 h6 H0 H1 H2 H3
    have hfz:=kY w
    have hcl:=qp w
    have hst:=uP w
    go_wp2
    refine bodyPost_ret (v:=.tuple #[.agg #[.string ⟨#[]⟩,.bool false,.string ⟨#[]⟩,.string s2,.bool hQ,.string qu,.bool hF,.string fr],.nilIface]) (by simp[results,results82,go_sem,ql w]) rfl ⟨.inr ⟨_,HE.o,HZ.o,rfl⟩,?_⟩
    repeat first|exact Below.refl _ _|apply below_drewN|(refine Below.setCell ?_ (by simp) _)|(refine Below.alloc ?_ (by simp) _)
   ·have H5:=Box.m h5
    have H6:=Box.m (h6 rfl)
    clear h5 h6
    go_wp2_with fail
    refine(o7 r _ _ _).mono ?_
    rintro e w1 ⟨au,pa,rfl,h7,h8,z8,z9,rfl⟩
    have HE:Box (bM s.data.toList=some (AV.ab ⟨⟨#[]⟩,true,au,pa,hQ,qu,hF,fr⟩)):=⟨jW H0.o H1.o H2.o H3.o ⟨#[]⟩ (.inr ⟨.inl rfl,rfl,rfl⟩) true au pa H5.o (.inr ⟨rfl,by rw[h7,H6.o],by rw[h8,H6.o]⟩)⟩
    have HZ:Box (AV.Small ⟨⟨#[]⟩,true,au,pa,hQ,qu,hF,fr⟩ s.size):=⟨lK (by first|omega|exact Z5 _) (by omega) (by omega) (by omega) (by omega)⟩
    clear h7 h8 H0 H1 H2 H3 H5 H6
    have hfz:=kY w
    have hcl:=qp w
    have hst:=uP w
    go_wp2
    refine bodyPost_ret (v:=.tuple #[.agg #[.string ⟨#[]⟩,.bool true,.string au,.string pa,.bool hQ,.string qu,.bool hF,.string fr],.nilIface]) (by simp[results,results82,go_sem,ql w]) rfl ⟨.inr ⟨_,HE.o,HZ.o,rfl⟩,?_⟩
    repeat first|exact Below.refl _ _|apply below_drewN|(refine Below.setCell ?_ (by simp) _)|(refine Below.alloc ?_ (by simp) _)
  ·cases hsc:Am sc.data.toList
   ·have HS:=Box.m hsc
    go_wp2_with fail
    refine(xO sc _ (by omega) false hsc).mono ?_
    rintro e w1 ⟨rfl,rfl⟩
    clear hsc
    go_wp2_with fail
    refine(wN s2 _).mono ?_
    rintro e w1 ⟨r,q,rfl,h5,h6,z7,rfl⟩
    cases q
    ·have HE:Box (bM s.data.toList=some (AV.ab ⟨⟨#[]⟩,false,⟨#[]⟩,s2,hQ,qu,hF,fr⟩)):=⟨jW H0.o H1.o H2.o H3.o ⟨#[]⟩ (.inr ⟨.inr ⟨rfl,HS.o⟩,rfl,rfl⟩) false ⟨#[]⟩ s2 h5 (.inl ⟨rfl,rfl,rfl⟩)⟩
     have HZ:Box (AV.Small ⟨⟨#[]⟩,false,⟨#[]⟩,s2,hQ,qu,hF,fr⟩ s.size):=⟨lK (by first|omega|exact Z5 _) (Z5 _) (by omega) (by omega) (by omega)⟩
     clear h5 h6 H0 H1 H2 H3
     have hfz:=kY w
     have hcl:=qp w
     have hst:=uP w
     go_wp2
     refine bodyPost_ret (v:=.tuple #[.agg #[.string ⟨#[]⟩,.bool false,.string ⟨#[]⟩,.string s2,.bool hQ,.string qu,.bool hF,.string fr],.nilIface]) (by simp[results,results82,go_sem,ql w]) rfl ⟨.inr ⟨_,HE.o,HZ.o,rfl⟩,?_⟩
     repeat first|exact Below.refl _ _|apply below_drewN|(refine Below.setCell ?_ (by simp) _)|(refine Below.alloc ?_ (by simp) _)
    ·have H5:=Box.m h5
     have H6:=Box.m (h6 rfl)
     clear h5 h6
     go_wp2_with fail
     refine(o7 r _ _ _).mono ?_
     rintro e w1 ⟨au,pa,rfl,h7,h8,z8,z9,rfl⟩
     have HE:Box (bM s.data.toList=some (AV.ab ⟨⟨#[]⟩,true,au,pa,hQ,qu,hF,fr⟩)):=⟨jW H0.o H1.o H2.o H3.o ⟨#[]⟩ (.inr ⟨.inr ⟨rfl,HS.o⟩,rfl,rfl⟩) true au pa H5.o (.inr ⟨rfl,by rw[h7,H6.o],by rw[h8,H6.o]⟩)⟩
     have HZ:Box (AV.Small ⟨⟨#[]⟩,true,au,pa,hQ,qu,hF,fr⟩ s.size):=⟨lK (by first|omega|exact Z5 _) (by omega) (by omega) (by omega) (by omega)⟩
     clear h7 h8 H0 H1 H2 H3 H5 H6
     have hfz:=kY w
     have hcl:=qp w
     have hst:=uP w
     go_wp2
     refine bodyPost_ret (v:=.tuple #[.agg #[.string ⟨#[]⟩,.bool true,.string au,.string pa,.bool hQ,.string qu,.bool hF,.string fr],.nilIface]) (by simp[results,results82,go_sem,ql w]) rfl ⟨.inr ⟨_,HE.o,HZ.o,rfl⟩,?_⟩
     repeat first|exact Below.refl _ _|apply below_drewN|(refine Below.setCell ?_ (by simp) _)|(refine Below.alloc ?_ (by simp) _)
   ·have HS:=Box.m hsc
    go_wp2_with fail
    refine(xO sc _ (by omega) true hsc).mono ?_
    rintro e w1 ⟨rfl,rfl⟩
    clear hsc
    go_wp2_with fail
    refine(wN re _).mono ?_
    rintro e w1 ⟨r,q,rfl,h5,h6,z7,rfl⟩
    cases q
    ·have HE:Box (bM s.data.toList=some (AV.ab ⟨sc,false,⟨#[]⟩,re,hQ,qu,hF,fr⟩)):=⟨jW H0.o H1.o H2.o H3.o sc (.inl ⟨rfl,HS.o,rfl,rfl⟩) false ⟨#[]⟩ re h5 (.inl ⟨rfl,rfl,rfl⟩)⟩
     have HZ:Box (AV.Small ⟨sc,false,⟨#[]⟩,re,hQ,qu,hF,fr⟩ s.size):=⟨lK (by first|omega|exact Z5 _) (Z5 _) (by omega) (by omega) (by omega)⟩
     clear h5 h6 H0 H1 H2 H3
     have hfz:=kY w
     have hcl:=qp w
     have hst:=uP w
     go_wp2
     refine bodyPost_ret (v:=.tuple #[.agg #[.string sc,.bool false,.string ⟨#[]⟩,.string re,.bool hQ,.string qu,.bool hF,.string fr],.nilIface]) (by simp[results,results82,go_sem,ql w]) rfl ⟨.inr ⟨_,HE.o,HZ.o,rfl⟩,?_⟩
     repeat first|exact Below.refl _ _|apply below_drewN|(refine Below.setCell ?_ (by simp) _)|(refine Below.alloc ?_ (by simp) _)
    ·have H5:=Box.m h5
     have H6:=Box.m (h6 rfl)
     clear h5 h6
     go_wp2_with fail
     refine(o7 r _ _ _).mono ?_
     rintro e w1 ⟨au,pa,rfl,h7,h8,z8,z9,rfl⟩
     have HE:Box (bM s.data.toList=some (AV.ab ⟨sc,true,au,pa,hQ,qu,hF,fr⟩)):=⟨jW H0.o H1.o H2.o H3.o sc (.inl ⟨rfl,HS.o,rfl,rfl⟩) true au pa H5.o (.inr ⟨rfl,by rw[h7,H6.o],by rw[h8,H6.o]⟩)⟩
     have HZ:Box (AV.Small ⟨sc,true,au,pa,hQ,qu,hF,fr⟩ s.size):=⟨lK (by first|omega|exact Z5 _) (by omega) (by omega) (by omega) (by omega)⟩
     clear h7 h8 H0 H1 H2 H3 H5 H6
     have hfz:=kY w
     have hcl:=qp w
     have hst:=uP w
     go_wp2
     refine bodyPost_ret (v:=.tuple #[.agg #[.string sc,.bool true,.string au,.string pa,.bool hQ,.string qu,.bool hF,.string fr],.nilIface]) (by simp[results,results82,go_sem,ql w]) rfl ⟨.inr ⟨_,HE.o,HZ.o,rfl⟩,?_⟩
     repeat first|exact Below.refl _ _|apply below_drewN|(refine Below.setCell ?_ (by simp) _)|(refine Below.alloc ?_ (by simp) _)
end Go.Proofs.YtkldkhdigkpniaaGreatDoor
