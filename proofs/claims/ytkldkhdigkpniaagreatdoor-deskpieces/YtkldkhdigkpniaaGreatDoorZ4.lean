import Derived.Test.YtkldkhdigkpniaaGreatDoorZB0
import Derived.Lib.Strings
import Derived.Deep.Slices
set_option maxHeartbeats 1600000
set_option maxRecDepth 100000
open Bool renaming eq_iff_iff → GL, and_eq_true → VQ, and_false → Ws
open Array renaming length_toList → Xu, getElem?_toList → ZV, getElem?_eq_some_iff → ZW, toList_setIfInBounds → ZX, toList_append → ZY
open List renaming getElem?_eq_getElem → ZZ, take_of_length_le → Z0, length_drop → Z4, length_append → Z5, size_toArray → Z6, take_add_one → Z7, isEmpty_iff → Z8, eq_nil_of_length_eq_zero → Z9, head?_reverse → aaa, reverse_reverse → aab, length_reverse → aac, getElem?_take → aad, length_set → aae, length_cons → aaf, length_take → aag, take_left → aah, getElem?_eq_some_iff → aai
open Nat renaming le_refl → aaj, zero_le → aak, add_zero → aal, sub_self → aam
namespace Go.Proofs.YtkldkhdigkpniaaGreatDoor
open Go.RowKit Go.Proofs.Tryz
structure Box(p:Prop):Prop where
 m ::
 o:p
def qP:Value->Nat
 | .string t=>t.size
 | _=>0
theorem CV(c d:UInt8):((c.toNat:Int)==(d.toNat:Int))=(c==d):=by
 rw[GL];simp[<-UInt8.toNat_inj];omega
theorem X6(c d:UInt8):((c.toNat:Int) != (d.toNat:Int))=(c != d):=by
 show(!((c.toNat:Int)==(d.toNat:Int)))=!(c==d)
 rw[CV]
theorem ae(s:ByteArray):s.data.toList.length=s.size:=by rw[Xu];rfl
theorem xU(s:ByteArray)(k:Nat)(h:k<s.size):s.data.toList[k]?=some s[k]:=by
 rw[ZZ (by rw[ae];exact h)];rfl
theorem mR(s:ByteArray)(k:Nat)(h:k<s.size):s.data.toList.take (k+1)=s.data.toList.take k++[s[k]]:=by
 rw[Z7,xU s k h];rfl
theorem pV(s:ByteArray)(k:Nat)(h:¬k<s.size):s.data.toList.take k=s.data.toList:=Z0 (by rw[ae];omega)
theorem eta(b:ByteArray):(⟨b.data.toList.toArray⟩:ByteArray)=b:=by simp
theorem aF{a b:ByteArray}(h:a.data.toList=b.data.toList):a=b:=by rw[<-eta a,<-eta b,h]
theorem dC(t:ByteArray)(h:t.size=0):t.toList.isEmpty=true:=by
 rw[ByteArray.toList_eq,Z8]
 exact Z9 (by rw[ae];exact h)
theorem bN(t:ByteArray)(h:¬t.size=0):t.toList.isEmpty=false:=by
 rw[ByteArray.toList_eq,<-Bool.not_eq_true,Z8]
 intro e
 apply h
 rw[<-ae,e];rfl
theorem fZ(t:ByteArray)(h:t.size=0):t.data.toList=[]:=Z9 (by rw[ae];exact h)
theorem aB(t:ByteArray)(a b:Nat):(t.extract a b).data.toList=(t.data.toList.drop a).take (b - a):=by
 simp[ByteArray.data_extract,Array.toList_extract,List.extract_eq_take_drop]
theorem wh(t:ByteArray)(h:0<t.size):t.data.toList=t[0]::(t.extract 1 t.size).data.toList:=by
 rw[aB,Z0 (by rw[Z4,ae];exact aaj _)]
 have h1:0<t.data.toList.length:=by rw[ae];exact h
 have:t.data.toList=t.data.toList[0]::t.data.toList.drop 1:=by rw[List.getElem_cons_drop];rfl
 exact this
theorem KZ(t:ByteArray)(h:0<t.size):t.data.toList=(t.extract 0 (t.size - 1)).data.toList++[t[t.size - 1]]:=by
 rw[aB]
 have:=mR t (t.size - 1) (by omega)
 rw[Nat.sub_add_cancel h,Z0 (by rw[ae];omega)]at this
 simpa using this
def blk(c:UInt8):Bool:=c==32||c==9
def qa(c:UInt8):Bool:=decide (33<=c.toNat)&&decide (c.toNat<=126)&&decide (c.toNat≠58)
def sJ(c:UInt8):Bool:=(decide (32<=c.toNat)||decide (c.toNat=9))&&decide (c.toNat≠127)
def aQ(c:UInt8):UInt8:=if 65<=c.toNat/\c.toNat<=90 then UInt8.ofNat (c.toNat+32) else c
def jY(l:aa):Bool:=!l.isEmpty&&l.all qa
def aW(l:aa):aa:=l.dropWhile blk
def oQ(l:aa):aa:=(l.reverse.dropWhile blk).reverse
def trimS(l:aa):aa:=oQ (aW l)
def iK(l:aa):Bool:=l.all sJ&&decide (trimS l=l)
def ah(l:aa):aa:=l.map aQ
theorem Ki{a b:Int}(h:a=b):(a==b)=true:=by rw[beq_iff_eq];exact h
theorem Ef{a b:Int}(h:a≠b):(a==b)=false:=by rw[beq_eq_false_iff_ne];exact h
theorem Ro(c:UInt8)(h:qa c=true):33<=(c.toNat:Int)/\(c.toNat:Int)<=126/\((c.toNat:Int)==58)=false:=by
 simp only[qa,VQ,decide_eq_true_eq]at h
 exact⟨by omega,by omega,Ef (by omega)⟩
theorem Sy(c:UInt8)(h:qa c=false):(c.toNat:Int)<33\/(33<=(c.toNat:Int)/\126<(c.toNat:Int))\/(33<=(c.toNat:Int)/\(c.toNat:Int)<=126/\((c.toNat:Int)==58)=true):=by
 have h':¬(33<=c.toNat/\c.toNat<=126/\c.toNat≠58):=by
  intro hh
  rw[qa,decide_eq_true hh.1,decide_eq_true hh.2.1,decide_eq_true hh.2.2]at h
  cases h
 by_cases h1:(c.toNat:Int)<33
 ·exact .inl h1
 ·by_cases h2:126<(c.toNat:Int)
  ·exact .inr (.inl ⟨by omega,h2⟩)
  ·exact .inr (.inr ⟨by omega,by omega,Ki (by omega)⟩)
theorem UD(c:UInt8)(h:sJ c=true):(32<=(c.toNat:Int)/\((c.toNat:Int)==127)=false)\/((c.toNat:Int)<32/\((c.toNat:Int) != 9)=false/\((c.toNat:Int)==127)=false):=by
 simp only[sJ,VQ,Bool.or_eq_true,decide_eq_true_eq]at h
 by_cases h1:32<=(c.toNat:Int)
 ·exact .inl ⟨h1,Ef (by omega)⟩
 ·exact .inr ⟨by omega,by rw[bne,Ki (by omega)];rfl,Ef (by omega)⟩
theorem Xp(c:UInt8)(h:sJ c=false):(32<=(c.toNat:Int)/\((c.toNat:Int)==127)=true)\/((c.toNat:Int)<32/\((c.toNat:Int) != 9)=true):=by
 have h':¬((32<=c.toNat\/c.toNat=9)/\c.toNat≠127):=by
  rintro⟨a|a,b⟩
  ·rw[sJ,decide_eq_true a,decide_eq_true b]at h;cases h
  ·rw[sJ,decide_eq_true a,decide_eq_true b]at h;simp at h
 by_cases h1:32<=(c.toNat:Int)
 ·exact .inl ⟨h1,Ki (by omega)⟩
 ·exact .inr ⟨by omega,by rw[bne,Ef (by omega)];rfl⟩
theorem MJ(c:UInt8)(h:65<=c.toNat/\c.toNat<=90):((aQ c).toNat:Int)=(c.toNat:Int)+32:=by
 rw[aQ,if_pos h,UInt8.toNat_ofNat_of_lt' (by show _<256;omega)];omega
theorem PK(c:UInt8)(h:¬(65<=c.toNat/\c.toNat<=90)):aQ c=c:=by rw[aQ,if_neg h]
theorem yc{p:UInt8->Bool}(s:ByteArray)(k:Nat)(h:k<s.size)(hp:p s[k]=false):s.data.toList.all p=false:=by
 rw[List.all_eq_false]
 exact⟨s[k],List.mem_of_getElem? (xU s k h),by rw[hp];decide⟩
theorem sV{p:UInt8->Bool}(s:ByteArray)(k:Nat)(h:k<s.size)(h0:(s.data.toList.take k).all p=true)(hp:p s[k]=true):(s.data.toList.take (k+1)).all p=true:=by
 rw[mR s k h,List.all_append,h0];simp[hp]
theorem Bt(l:aa)(h:l.head?.all (fun c=>!blk c)=true):aW l=l:=by
 cases l with
 | nil=>rfl
 | cons c l=>simp at h;simp[aW,h]
theorem LA(l:aa)(h:l.getLast?.all (fun c=>!blk c)=true):oQ l=l:=by
 have:aW l.reverse=l.reverse:=Bt _ (by rw[aaa];exact h)
 unfold oQ
 show(aW l.reverse).reverse=l
 rw[this,aab]
theorem dB(l:aa):(aW l).length<=l.length:=by
 induction l with
 | nil=>exact aaj _
 | cons c l ih=>
  unfold aW
  rw[List.dropWhile_cons]
  split
  ·exact Nat.le_trans ih (by simp)
  ·exact aaj _
theorem yS(l:aa):(oQ l).length<=l.length:=by
 have:=dB l.reverse
 rw[aac]at this
 unfold oQ
 rw[aac]
 exact this
theorem KC(l:aa):trimS l=l↔(l.head?.all (fun c=>!blk c)=true/\l.getLast?.all (fun c=>!blk c)=true):=by
 constructor
 ·intro h
  have h1:aW l=l:=by
   cases l with
   | nil=>rfl
   | cons c l=>
    by_cases hc:blk c=true
    ·exfalso
     have e:aW (c::l)=aW l:=by simp[aW,hc]
     have h2:=yS (aW (c::l))
     have h3:=dB l
     have h4:(trimS (c::l)).length=(c::l).length:=by rw[h]
     unfold trimS at h4
     rw[e]at h2 h4
     simp at h4
     omega
    ·simp[aW,hc]
  have h2:oQ l=l:=by have:=h;unfold trimS at this;rw[h1]at this;exact this
  constructor
  ·cases l with
   | nil=>rfl
   | cons c l=>
    simp
    by_cases hc:blk c=true
    ·exfalso
     have e:aW (c::l)=aW l:=by simp[aW,hc]
     have h3:=dB l
     have h4:(aW (c::l)).length=(c::l).length:=by rw[h1]
     rw[e]at h4;simp at h4;omega
    ·simpa using hc
  ·have h5:aW l.reverse=l.reverse:=by
    have:=congrArg List.reverse h2
    unfold oQ at this
    rw[aab]at this
    exact this
   rw[<-aaa]
   generalize l.reverse=m at h5
   cases m with
   | nil=>rfl
   | cons c m=>
    simp
    by_cases hc:blk c=true
    ·exfalso
     have e:aW (c::m)=aW m:=by simp[aW,hc]
     have h3:=dB m
     have h4:(aW (c::m)).length=(c::m).length:=by rw[h5]
     rw[e]at h4;simp at h4;omega
    ·simpa using hc
 ·rintro⟨h1,h2⟩
  unfold trimS
  rw[Bt l h1,LA l h2]
abbrev Fl:=ByteArray×ByteArray
def aX(L:List Fl):List Value:=L.flatMap fun f=>[Value.string f.1,Value.string f.2]
def FLA(w:World)(A:Option Addr)(L:List Fl):Prop:=∀k (hk:k<L.length),∃b off,A=some ⟨b,off,none⟩/\w.cell? ⟨b,off+k*2,none⟩=some (.string L[k].1)/\w.cell? ⟨b,off+k*2+1,none⟩=some (.string L[k].2)
def FL(w:World)(v:Value)(L:List Fl):Prop:=∃A cap,v=.slice A L.length cap/\L.length<=cap/\FLA w A L
def lW(L:List Fl):Prop:=L.length<=100000/\∀f∈L,f.1.size<=1000000/\f.2.size<=1000000
theorem FL.nil(w:World):FL w (.slice none 0 0) []:=⟨none,0,rfl,aaj _,fun k hk=>absurd hk (by simp)⟩
theorem FLA.below{w w':World}{C:Nat}{A:Option Addr}{L:List Fl}(h1:FLA w A L)(hb:Below C w w')(hC:w.heap.size<=C):FLA w' A L:=by
 intro k hk
 obtain⟨b,off,rfl,h2,h3⟩:=h1 k hk
 have hlt:b<w.heap.size:=World.block_lt_of_cell? w _ h2
 exact⟨b,off,rfl,(hb.cell (p:=⟨b,off+k*2,none⟩) (by show b<C;omega)).trans h2,(hb.cell (p:=⟨b,off+k*2+1,none⟩) (by show b<C;omega)).trans h3⟩
theorem FL.below{w w':World}{C:Nat}{v:Value}{L:List Fl}(h:FL w v L)(hb:Below C w w')(hC:w.heap.size<=C):FL w' v L:=by
 obtain⟨A,cap,rfl,hc,h1⟩:=h
 exact⟨A,cap,rfl,hc,h1.below hb hC⟩
theorem FLA.elem{w wr:World}{A:Option Addr}{L:List Fl}(h:FLA w A L)(hT:lW L)(hb:Below w.heap.size w wr)(k:Nat)(hk:k<L.length):
  ∃b off n v,A=some ⟨b,off,none⟩/\Box (L[k]?=some (n,v))/\n.size<=1000000/\v.size<=1000000/\b<w.heap.size/\wr.cell? ⟨b,off+k*2,none⟩=some (.string n)/\wr.cell? ⟨b,off+k*2+1,none⟩=some (.string v):=by
 obtain⟨b,off,rfl,h2,h3⟩:=h k hk
 have hlt:b<w.heap.size:=World.block_lt_of_cell? w _ h2
 have hs:=hT.2 L[k] (List.getElem_mem hk)
 exact⟨b,off,L[k].1,L[k].2,rfl,⟨by rw[ZZ hk]⟩,hs.1,hs.2,hlt,(hb.cell (p:=⟨b,off+k*2,none⟩) hlt).trans h2,(hb.cell (p:=⟨b,off+k*2+1,none⟩) hlt).trans h3⟩
theorem bV{α:Type}(L:List α)(k:Nat)(f:α)(h:L[k]?=some f):L.take (k+1)=L.take k++[f]:=by
 rw[Z7,h];rfl
theorem qO(c:UInt8)(w:World):
  Calls prog 278 #[.int .u8 (c.toNat:Int)] w fun e w'=>e=.returned (.bool (blk c))/\w'=w:=by
 have H:Hid (blk c=(((c.toNat:Int)==32)||((c.toNat:Int)==9))):=by
  have e1:=CV c 32
  have e2:=CV c 9
  show _=_
  unfold blk
  rw[<-e1,<-e2];rfl
 go_enter func278,ntmps278
 go_wp2
 all_goals
  go_ret
  exact⟨aN (by rw[H.o];try simp[*]),rfl⟩
theorem KQ(l:aa)(h:l.all qa=false):jY l=false:=by unfold jY;rw[h,Ws]
theorem Q3(s:ByteArray)(h:s.data.toList.all qa=true):jY s.data.toList=!(s.toList.isEmpty):=by unfold jY;rw[h,Bool.and_true,ByteArray.toList_eq]
theorem ny(s:ByteArray)(w:World)(hl:s.size<=1000000):
  Calls prog 272 #[.string s] w fun e w'=>e=.returned (.bool (jY s.data.toList))/\w'=w:=by
 go_enter func272,ntmps272
 go_wp2
 go_loop [6] (fun i=>∃k:Nat,k<=s.size/\i=.int .i64 k/\Box ((s.data.toList.take k).all qa=true)) (fun i=>s.size - (intOf i).toNat)
 case atStart=>exact⟨0,aak _,rfl,⟨rfl⟩⟩
 case round=>
  obtain⟨k,hk,rfl,HA⟩:=hrel
  by_cases hlt:k<s.size
  ·cases hc:qa s[k]
   ·have HF:Box (jY s.data.toList=false):=⟨KQ _ (yc s k hlt hc)⟩
    have hx:=Sy _ hc
    clear hc HA
    rcases hx with x1|⟨x1,x2⟩|⟨x1,x2,x3⟩
    all_goals
     go_wp2
     go_ret
     exact⟨aN HF.o.symm,rfl⟩
   ·have HA':Box ((s.data.toList.take (k+1)).all qa=true):=⟨sV s k hlt HA.o hc⟩
    obtain⟨x1,x2,x3⟩:=Ro _ hc
    clear hc HA
    go_wp2
    go_round
    case rel=>exact⟨k+1,by omega,by go_num,HA'⟩
    case measure=>simp[intOf];omega
  ·have HF:Box (jY s.data.toList=!(s.toList.isEmpty)):=⟨Q3 s (by rw[<-pV s k hlt];exact HA.o)⟩
   clear HA
   go_wp2
   go_ret
   exact⟨aN HF.o.symm,rfl⟩
theorem Mc(l:aa)(h:l.all sJ=false):iK l=false:=by unfold iK;rw[h,Bool.false_and]
theorem VB(l:aa)(h:l.all sJ=true):iK l=decide (trimS l=l):=by unfold iK;rw[h,Bool.true_and]
theorem RL(s:ByteArray)(h:s.data.toList.all sJ=true)(h0:0<s.size):iK s.data.toList=(!blk s[0]&&!blk s[s.size - 1]):=by
 rw[VB _ h,GL,decide_eq_true_iff,KC]
 have e1:s.data.toList.head?=some s[0]:=by rw[wh s h0];rfl
 have e2:s.data.toList.getLast?=some s[s.size - 1]:=by rw[KZ s h0];simp
 rw[e1,e2]
 simp
theorem wR(s:ByteArray)(w:World)(hl:s.size<=1000000):
  Calls prog 274 #[.string s] w fun e w'=>e=.returned (.bool (iK s.data.toList))/\w'=w:=by
 go_enter func274,ntmps274
 go_wp2
 go_loop [6] (fun i=>∃k:Nat,k<=s.size/\i=.int .i64 k/\Box ((s.data.toList.take k).all sJ=true)) (fun i=>s.size - (intOf i).toNat)
 case atStart=>exact⟨0,aak _,rfl,⟨rfl⟩⟩
 case round=>
  obtain⟨k,hk,rfl,HA⟩:=hrel
  by_cases hlt:k<s.size
  ·cases hc:sJ s[k]
   ·have HF:Box (iK s.data.toList=false):=⟨Mc _ (yc s k hlt hc)⟩
    have hx:=Xp _ hc
    clear hc HA
    rcases hx with⟨x1,x2⟩|⟨x1,x2⟩
    all_goals
     go_wp2
     go_ret
     exact⟨aN HF.o.symm,rfl⟩
   ·have HA':Box ((s.data.toList.take (k+1)).all sJ=true):=⟨sV s k hlt HA.o hc⟩
    have hx:=UD _ hc
    clear hc HA
    rcases hx with⟨x1,x2⟩|⟨x1,x2,x3⟩
    all_goals
     go_wp2
     go_round
     case rel=>exact⟨k+1,by omega,by go_num,HA'⟩
     case measure=>simp[intOf];omega
  ·have HB:Box (s.data.toList.all sJ=true):=⟨by rw[<-pV s k hlt];exact HA.o⟩
   clear HA
   by_cases h0:s.size=0
   ·have HF:Box (iK s.data.toList=true):=⟨by rw[fZ s h0];rfl⟩
    have he:=dC s h0
    go_wp2
    go_ret
    exact⟨aN HF.o.symm,rfl⟩
   ·have HF:Box (iK s.data.toList=(!blk s[0]&&!blk s[s.size - 1])):=⟨RL s HB.o (by omega)⟩
    have he:=bN s h0
    have hp:0<s.size:=by omega
    clear HB
    cases hb0:blk s[0]
    ·cases hb1:blk s[s.size - 1]
     ·have HF':Box (iK s.data.toList=true):=⟨by rw[HF.o,hb0,hb1];rfl⟩
      clear HF
      go_wp2_with (go_at_call 278;refine(qO _ _).mono ?_;rintro e w' ⟨rfl,rfl⟩)
      go_ret
      exact⟨aN HF'.o.symm,rfl⟩
     ·have HF':Box (iK s.data.toList=false):=⟨by rw[HF.o,hb0,hb1];rfl⟩
      clear HF
      go_wp2_with (go_at_call 278;refine(qO _ _).mono ?_;rintro e w' ⟨rfl,rfl⟩)
      go_ret
      exact⟨aN HF'.o.symm,rfl⟩
    ·have HF':Box (iK s.data.toList=false):=⟨by rw[HF.o,hb0];rfl⟩
     clear HF
     go_wp2_with (go_at_call 278;refine(qO _ _).mono ?_;rintro e w' ⟨rfl,rfl⟩)
     go_ret
     exact⟨aN HF'.o.symm,rfl⟩
def jL(w:World)(B:Nat)(v:Value)(l:aa):Prop:=
 ∃g cap cur fz,v=.slice (some ⟨g,0,none⟩) l.length cap/\B<=g/\w.heap[g]?=some (.cells cur 5 fz)/\(cur.size<=fz.1\/fz.2=0)/\l.length<=cap/\cap<=maxLen/\cur.size=cap/\cur.toList.take l.length=cs l
theorem Zw{w:World}{g:Nat}{cur:Array Value}{t:TypeId}{fz:Nat×Nat}(hg:w.heap[g]?=some (.cells cur t fz))(hf:cur.size<=fz.1\/fz.2=0)(k:Nat)(hk:k<cur.size):w.frozen? ⟨g,k,none⟩=false:=by
 obtain⟨lo,hi⟩:=fz
 simp only[World.frozen?,hg]
 rcases hf with hf|hf
 ·have:decide (lo<=k)=false:=decide_eq_false (by simp at hf;omega)
  rw[this];rfl
 ·have:decide (k<hi)=false:=decide_eq_false (by simp at hf;omega)
  rw[this,Ws]
theorem jL.cell{w:World}{B g n cap:Nat}{l:aa}(h:jL w B (.slice (some ⟨g,0,none⟩) n cap) l)(k:Nat)(hk:k<l.length):w.cell? ⟨g,k,none⟩=some (.int .u8 (l[k].toNat:Int))/\w.frozen? ⟨g,k,none⟩=false:=by
 obtain⟨g',cap',cur,fz,hv,_,hg,hf,hc,_,hs,ht⟩:=h
 simp only[Value.slice.injEq,Option.some.injEq,Addr.mk.injEq,and_true]at hv
 obtain⟨rfl,_,rfl⟩:=hv
 refine⟨?_,Zw hg hf k (by omega)⟩
 have hks:k<cur.size:=by omega
 have e:(cur.toList.take l.length)[k]?=(cs l)[k]?:=by rw[ht]
 rw[aad,if_pos hk]at e
 simp only[World.cell?,hg]
 rw[<-ZV,e]
 simp[cs,ZZ hk]
theorem jL.len{w:World}{B g n cap:Nat}{l:aa}(h:jL w B (.slice (some ⟨g,0,none⟩) n cap) l):n=l.length/\l.length<=cap/\B<=g/\g<w.heap.size:=by
 obtain⟨g',cap',cur,fz,hv,hB,hg,hf,hc,_,hs,ht⟩:=h
 simp only[Value.slice.injEq,Option.some.injEq,Addr.mk.injEq,and_true]at hv
 obtain⟨rfl,h1,rfl⟩:=hv
 exact⟨h1,hc,hB,(ZW.1 hg).1⟩
theorem jL.set{w:World}{B g n cap:Nat}{l:aa}(h:jL w B (.slice (some ⟨g,0,none⟩) n cap) l)(k:Nat)(c:UInt8):jL (w.setCell ⟨g,k,none⟩ (.int .u8 (c.toNat:Int))) B (.slice (some ⟨g,0,none⟩) n cap) (l.set k c):=by
 obtain⟨g',cap',cur,fz,hv,hB,hg,hf,hc,hm,hs,ht⟩:=h
 simp only[Value.slice.injEq,Option.some.injEq,Addr.mk.injEq,and_true]at hv
 obtain⟨rfl,rfl,rfl⟩:=hv
 refine⟨g,cap,cur.setIfInBounds k (.int .u8 (c.toNat:Int)),fz,by rw[aae],hB,?_,by simpa using hf,by simpa using hc,hm,by simpa using hs,?_⟩
 ·rw[setCell_eq_setRow w g k cur _ fz _ hg]
  exact setRow_heap w g cur _ _ fz hg
 ·rw[aae,ZX,List.take_set,ht]
  simp[cs,List.map_set]
theorem jL.below{w w':World}{B C:Nat}{v:Value}{l:aa}(h:jL w B v l)(hb:Below C w w')(hC:w.heap.size<=C):jL w' B v l:=by
 obtain⟨g,cap,cur,fz,hv,hB,hg,hr⟩:=h
 refine⟨g,cap,cur,fz,hv,hB,?_,hr⟩
 rw[hb.block g (by have:=(ZW.1 hg).1;omega)]
 exact hg
theorem jL.string{w:World}{B:Nat}{v:Value}{l:aa}(h:jL w B v l):(convert 32 9 v).run prog w=.ok (.string ⟨l.toArray⟩) w:=by
 have h':=h
 obtain⟨g,cap,cur,fz,rfl,_⟩:=h
 refine run_convert_bytes_back w _ _ 5 ⟨g,0,none⟩ cap l underlying32 underlying5 underlying9 (fun j hj=>?_)
 rw[Addr.add_lit]
 simpa using(h'.cell j hj).1
theorem ze(W:World)(s:ByteArray):(convert 9 32 (.string s)).run prog W=.ok (.slice (some ⟨W.heap.size,0,none⟩) s.size (grownCap W s.size 0 5)) (W.drew.alloc (.cells (bytesRow s (grownCap W s.size 0 5)) 5 ((bytesRow s (grownCap W s.size 0 5)).size,(bytesRow s (grownCap W s.size 0 5)).size+1))):=
 run_bytes_of_string W _ _ _ s underlying9 underlying32 underlying5
theorem jL.bytes(W w':World)(B:Nat)(s:ByteArray)(hB:B<=W.heap.size)(hl:s.size<=1000000000)(e:w'.heap=W.heap.push (.cells (bytesRow s (grownCap W s.size 0 5)) 5 ((bytesRow s (grownCap W s.size 0 5)).size,(bytesRow s (grownCap W s.size 0 5)).size+1))):
  jL w' B (.slice (some ⟨W.heap.size,0,none⟩) s.size (grownCap W s.size 0 5)) s.data.toList:=by
 have hge:=grownCap_ge W s.size 0 5
 have hsz:(bytesRow s (grownCap W s.size 0 5)).size=grownCap W s.size 0 5:=by
  have hd:s.data.size=s.size:=rfl
  simp[bytesRow,hd];omega
 refine⟨W.heap.size,_,bytesRow s (grownCap W s.size 0 5),((bytesRow s (grownCap W s.size 0 5)).size,(bytesRow s (grownCap W s.size 0 5)).size+1),by rw[ae],hB,by rw[e];simp,.inl af,by rw[ae];exact hge,grownCap_le_maxLen W _ 0 _ (by unfold maxLen;omega),hsz,?_⟩
 have hd:(s.data.toList).length=(cs s.data.toList).length:=by simp[cs]
 rw[hd]
 simp[bytesRow,cs]
theorem Yy(g o:Nat)(t:TypeId)(fz:Nat×Nat)(vs:List Value):∀(i:Nat) (cur:Array Value) (w:World),w.heap[g]?=some (.cells cur t fz)->(cur.size<=fz.1\/fz.2=0)->o+i+vs.length<=cur.size->(∀v∈vs,v.oneCell'=true) ->
  (storeCells ⟨g,o,none⟩ vs i).run prog w=.ok () (w.setRow g (cur.toList.take (o+i)++vs++cur.toList.drop (o+i+vs.length)).toArray):=by
 induction vs with
 | nil=>
  intro i cur w hg _ _ _
  have e:(cur.toList.take (o+i)++[]++cur.toList.drop (o+i+0)).toArray=cur:=by simp
  rw[List.length_nil,e,setRow_self w g cur t fz hg];rfl
 | cons v vs ih=>
  intro i cur w hg hf hl h1
  rw[aaf]at hl
  have hlt:o+i<cur.size:=by omega
  have ha:(⟨g,o,none⟩:Addr).add i=⟨g,o+i,none⟩:=Addr.add_lit _ _ _
  have one:(store ((⟨g,o,none⟩:Addr).add i) v).run prog w=.ok () (w.setRow g (cur.setIfInBounds (o+i) v)):=by
   rw[ha,run_store prog w _ v _ (h1 v List.mem_cons_self)]
   have hc:w.cell? ⟨g,o+i,none⟩=some cur[o+i]:=by simp[World.cell?,hg,hlt]
   rw[hc]
   simp[Zw hg hf (o+i) hlt,setCell_eq_setRow w g (o+i) cur t fz v hg]
  have more:=ih (i+1) (cur.setIfInBounds (o+i) v) (w.setRow g (cur.setIfInBounds (o+i) v)) (setRow_heap w g cur _ t _ hg) (by simpa using hf) (by simpa using(by omega:o+(i+1)+vs.length<=cur.size)) (fun x hx=>h1 x (List.mem_cons_of_mem _ hx))
  have seg:=list_seg_step cur.toList (o+i) v vs (by rw[Xu];omega)
  simp only[storeCells,Sem.run_bind,one,Result.andThen_ok,more,setRow_setRow]
  rw[ZX,<-Nat.add_assoc,seg,aaf]
theorem jL.app{w:World}{B:Nat}{v:Value}{l:aa}(h:jL w B v l)(s:ByteArray)(ty:TypeId)(hl:l.length+s.size<=1000000000)(hB:B<=w.heap.size):
  ∃v' w',(Builtin.append_ #[32,9] ty #[v,.string s]).run prog w=.ok v' w'/\jL w' B v' (l++s.data.toList)/\w.grownBy w' v.ownBlock/\(v'.ownBlock=v.ownBlock\/v'.ownBlock=some w.heap.size):=by
 obtain⟨i0,hi,hz0,hz1,hz2⟩:=info_parts Tryz.infoByte
 obtain⟨g,cap,cur,fz,rfl,hBg,hg,hf,hc,hm,hs,ht⟩:=h
 have hlen:(l++s.data.toList).length=l.length+s.size:=by rw[Z5,ae]
 have hsc:Lib.strCells s=cs s.data.toList:=rfl
 have hscl:(Lib.strCells s).length=s.size:=by rw[hsc,pY,ae]
 by_cases hroom:l.length+s.size<=cap
 ·have hst:=Yy g l.length 5 fz (Lib.strCells s) 0 cur w hg hf (by rw[hscl];omega) (Lib.strCells_oneCell s)
  rw[aal,hscl]at hst
  have hfst:=Lib.run_firstCells_string (P:=prog) w 1 s
  refine⟨.slice (some ⟨g,0,none⟩) (l.length+s.size) cap,_,by simp[Builtin.append_,run_underlying underlying32,run_underlying underlying9,sizeOf,typeInfo,hi,hz1,Builtin.lenOf,hroom,hfst,Addr.add_lit,hst];rfl,⟨g,cap,_,fz,by rw[hlen],hBg,setRow_heap w g cur _ _ fz hg,?_,by omega,hm,?_,?_⟩,⟨rfl,rfl,rfl,by simp,fun k _ hk=>setRow_other w g k _ (fun e=>hk (by simp[Value.ownBlock,e]))⟩,.inl rfl⟩
  ·simp only[Z6,Z5,aag,Z4,Xu,hscl]
   rcases hf with hf|hf
   ·exact .inl (by omega)
   ·exact .inr hf
  ·simp only[Z6,Z5,aag,Z4,Xu,hscl]
   omega
  ·have hh:(cs (l++s.data.toList)).length=l.length+s.size:=by rw[pY,hlen]
   rw[ht,hsc,hlen,<-List.append_assoc,<-mJ,<-hh]
   exact aah
 ·have holds:∀j u,(cs l)[j]?=some u->w.cell? ((⟨g,0,none⟩:Addr).add j)=some u:=by
   intro j u hu
   have hj:j<l.length:=by simpa[cs]using(aai.1 hu).1
   rw[Addr.add_lit,Nat.zero_add]
   have e:(cur.toList.take l.length)[j]?=(cs l)[j]?:=by rw[ht]
   rw[aad,if_pos hj,hu]at e
   rw[ZV]at e
   simp[World.cell?,hg,e]
  have hr:=Lib.run_append_grow_string (P:=prog) w _ _ ty 5 i0 (.int .u8 0) underlying32 underlying9 hi hz0 ⟨g,0,none⟩ l.length cap (cs l) (by rw[hz1,pY,Nat.mul_one]) holds s (by omega) (by omega) (by rw[hz2];exact growslice_fits (by omega) (by omega))
  have hge:=grownCap_ge w (l.length+s.size) cap 5
  refine⟨_,_,hr,⟨w.heap.size,_,_,(0,0),by rw[hlen],hB,heap_alloc_new w.drew _,.inr rfl,by rw[hlen];exact hge,grownCap_le_maxLen w _ cap _ (by unfold maxLen;omega),?_,?_⟩,⟨rfl,rfl,rfl,by simp,fun k hk _=>Below.heap_alloc w.drew _ k hk⟩,.inr rfl⟩
  ·have hz:(Value.int IntKind.u8 0).cells.size=1:=rfl
   simp only[Array.size_append,Z6,size_zeroCells,hz,pY,hscl]
   omega
  ·have hh:(cs (l++s.data.toList)).length=l.length+s.size:=by rw[pY,hlen]
   rw[hsc,hlen,<-hh,ZY,ZY,<-mJ]
   exact aah
theorem Aw{ops:Array Oper}{rest:List Oper}{o:Oper}{a:Act}{Q:Exit->Act->World->Prop}(W w0:World)(hgd:o.guard=none)(s x:Operand)(ho:o.op=.call { callee:=.builtin .append,args:=#[s,x],argTypes:=#[32,9] })
  (B:Nat) (v:Value) (l:aa) (hs:a.eval s=v) (hown:jL W B v l) (t:ByteArray) (hx:a.eval x=.string t) (hl:l.length+t.size<=1000000000) (hB:B<=W.heap.size) (hb:Below B w0 W)
  (h:∀v' w',jL w' B v' (l++t.data.toList)->Below B w0 w'->W.grownBy w' v.ownBlock->(v'.ownBlock=v.ownBlock\/v'.ownBlock=some W.heap.size)->wpList prog ops Q rest (a.put o.dst v') w'):wpList prog ops Q (o::rest) a W:=by
 refine wpList_plain hgd fun K hK=>?_
 obtain⟨v',w',hr,h2,h3,h4⟩:=hown.app t o.type hl hB
 unfold Oper.wp execOp
 simp only[ho,resolve,invoke,builtin,Sem.run_bind,Sem.run_pure,Result.andThen_ok,List.map_toArray,List.map_cons,List.map_nil,hs,hx,hr]
 refine hK _ _ (h v' w' h2 (hb.grown h3 hB ?_) h3 h4)
 obtain⟨g,cap,cur,fz,rfl,hBg,_⟩:=hown
 intro k hk
 simp[Value.ownBlock]at hk
 omega
theorem ww{w w':World}{row:Option Nat}(h:w.grownBy w' row)(a:Addr)(ha:a.block<w.heap.size)(hne:row≠some a.block):w'.cell? a=w.cell? a:=
 World.cell?_of_block (w:=w) (h.block a.block ha (fun e=>hne e.symm))
def fu(l:aa)(k:Nat):aa:=ah (l.take k)++l.drop k
theorem nX(l:aa)(k:Nat):(fu l k).length=l.length:=by
 simp[fu,ah];omega
theorem zL(s:ByteArray)(k:Nat)(h:k<s.size)(hk2:k<(fu s.data.toList k).length):(fu s.data.toList k)[k]'hk2=s[k]:=by
 have e:(ah (s.data.toList.take k)).length=k:=by simp[ah];omega
 have h2:(fu s.data.toList k)[k]?=some s[k]:=by
  unfold fu
  rw[List.getElem?_append_right (by rw[e];exact aaj _),e,aam,List.getElem?_drop,aal,xU s k h]
 exact(aai.1 h2).2
theorem DC(s:ByteArray)(k:Nat)(h:k<s.size):(fu s.data.toList k).set k (aQ s[k])=fu s.data.toList (k+1):=by
 have e:(ah (s.data.toList.take k)).length=k:=by simp[ah];omega
 have hd:s.data.toList.drop k=s[k]::s.data.toList.drop (k+1):=by
  rw[List.drop_eq_getElem_cons (by rw[ae];exact h)];rfl
 unfold fu
 rw[mR s k h,List.set_append_right _ _ (by rw[e];exact aaj _),e,aam,hd]
 simp[ah]
theorem GA(s:ByteArray)(k:Nat)(h:k<s.size)(hc:aQ s[k]=s[k]):fu s.data.toList (k+1)=fu s.data.toList k:=by
 rw[<-DC s k h,hc]
 have hl:k<(fu s.data.toList k).length:=by rw[nX,ae];exact h
 have:=zL s k h hl
 rw[<-this]
 exact List.set_getElem_self _
theorem I9(s:ByteArray)(k:Nat)(h:¬k<s.size):fu s.data.toList k=ah s.data.toList:=by
 unfold fu
 rw[pV s k h,List.drop_eq_nil_of_le (by rw[ae];omega),List.append_nil]
theorem mV(s:ByteArray)(w:World)(hl:s.size<=100000000):
  Calls prog 83 #[.string s] w fun e w'=>e=.returned (.string ⟨(ah s.data.toList).toArray⟩)/\Below w.heap.size w w':=by
 have hcv:=ze w s
 go_enter func83,ntmps83
 go_wp2
 clear hcv
 have hown0:=fun w' e=>jL.bytes w w' w.heap.size s af (by omega) e
 have HO:=Box.m hown0
 clear hown0
 generalize grownCap w s.size 0 5=cap at HO
 generalize hcells:Obj.cells (bytesRow s cap) 5 ((bytesRow s cap).size,(bytesRow s cap).size+1)=ob at HO
 have HC:=Box.m hcells
 clear hcells
 go_loopw [10] (fun i wr=>∃k:Nat,k<=s.size/\i=.int .i64 k/\jL wr w.heap.size (.slice (some ⟨w.heap.size,0,none⟩) s.size cap) (fu s.data.toList k)/\Below w.heap.size w wr) (fun i _=>s.size - (intOf i).toNat)
 case atStart=>exact⟨0,aak _,rfl,HO.o _ rfl,(ag.alloc af _).drew⟩
 case round=>
  obtain⟨k,hk,rfl,hown,hb⟩:=hrel
  have hcap:=hown.len.2.1
  rw[nX,ae]at hcap
  by_cases hlt:k<s.size
  ·have hl':k<(fu s.data.toList k).length:=by rw[nX,ae];exact hlt
   have hc:=hown.cell k hl'
   rw[zL s k hlt hl']at hc
   obtain⟨hc1,hc2⟩:=hc
   have hbyte:(s[k].toNat:Int)<256:=by have:=s[k].toNat_lt;omega
   by_cases hup:65<=s[k].toNat/\s[k].toNat<=90
   ·have HS:Box ((fu s.data.toList k).set k (aQ s[k])=fu s.data.toList (k+1)):=⟨DC s k hlt⟩
    have HV:Box (((aQ s[k]).toNat:Int)=(s[k].toNat:Int)+32):=⟨MJ _ hup⟩
    have u1:(65:Int)<=(s[k].toNat:Int):=by omega
    have u2:(s[k].toNat:Int)<=90:=by omega
    have hw2:=hown.set k (aQ s[k])
    rw[HS.o,HV.o]at hw2
    have HW:=Box.m hw2
    clear hw2 HS HV hup hown
    go_wp2
    go_roundw
    case rel=>exact⟨k+1,by omega,by go_num,HW.o,hb.setCell af _⟩
    case measure=>simp[intOf];omega
   ·have HS:Box (fu s.data.toList (k+1)=fu s.data.toList k):=⟨GA s k hlt (PK _ hup)⟩
    have hx:(s[k].toNat:Int)<65\/(65<=(s[k].toNat:Int)/\90<(s[k].toNat:Int)):=by omega
    clear hup
    rcases hx with u1|⟨u1,u2⟩
    all_goals
     go_wp2
     go_roundw
     case rel=>exact⟨k+1,by omega,by go_num,by rw[HS.o];exact hown,hb⟩
     case measure=>simp[intOf];omega
  ·rw[I9 s k hlt]at hown
   have hcv:=hown.string
   go_wp2
   go_ret
   exact⟨rfl,hb⟩
theorem iB(s:ByteArray)(w:World)(hl:s.size<=100000000):
  Calls prog 83 #[.string s] w fun e w'=>∃t:ByteArray,e=.returned (.string t)/\t.data.toList=ah s.data.toList/\Below w.heap.size w w':=by
 refine(mV s w hl).mono ?_
 rintro e w' ⟨rfl,hb⟩
 exact⟨_,rfl,rfl,hb⟩
end Go.Proofs.YtkldkhdigkpniaaGreatDoor
