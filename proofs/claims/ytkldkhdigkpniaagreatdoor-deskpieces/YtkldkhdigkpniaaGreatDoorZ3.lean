import Derived.Test.YtkldkhdigkpniaaGreatDoorZB0
import Derived.Lib.Strings
set_option maxHeartbeats 1600000
set_option maxRecDepth 100000
open Int renaming eq_ofNat_of_zero_le → GL
open List renaming take_of_length_le → VQ, length_drop → Ws
namespace Go.Proofs.YtkldkhdigkpniaaGreatDoor.Tx
open Go.RowKit Go.Proofs.Tryz
def dN(c:UInt8):Bool:=c==32||c==9
def aZ(c:UInt8):Bool:=33<=c&&c<=126&&c != 61
theorem CV(c d:UInt8):((c.toNat:Int)==(d.toNat:Int))=(c==d):=by
 rw[Bool.eq_iff_iff];simp[<-UInt8.toNat_inj];omega
theorem je(c:UInt8)(w:World):
  Calls prog 168 #[.int .u8 (c.toNat:Int)] w fun e w'=>e=.returned (.bool (dN c))/\w'=w:=by
 have e1:=CV c 32
 have e2:=CV c 9
 have H:Hid (dN c=(((c.toNat:Int)==32)||((c.toNat:Int)==9))):=by
  show _=_
  unfold dN
  rw[<-e1,<-e2];rfl
 clear e1 e2
 go_enter func168,ntmps168
 go_wp2
 all_goals
  go_ret
  exact⟨aN (by rw[H.o];try simp[*]),rfl⟩
theorem bX(c:UInt8)(w:World):
  Calls prog 167 #[.int .u8 (c.toNat:Int)] w fun e w'=>e=.returned (.bool (aZ c))/\w'=w:=by
 have H:Hid (aZ c=(decide (33<=(c.toNat:Int))&&decide ((c.toNat:Int)<=126)&&!((c.toNat:Int)==61))):=by
  show _=_
  have e1:=CV c 61
  unfold aZ
  have e2:decide (33<=(c.toNat:Int))=decide (33<=c):=by rw[decide_eq_decide,UInt8.le_iff_toNat_le];show(33:Int)<=_↔33<=c.toNat;omega
  have e3:decide ((c.toNat:Int)<=126)=decide (c<=126):=by rw[decide_eq_decide,UInt8.le_iff_toNat_le];show _<=(126:Int)↔c.toNat<=126;omega
  rw[e2,e3,show(61:Int)=((61:UInt8).toNat:Int)from rfl,e1];rfl
 go_enter func167,ntmps167
 go_wp2
 all_goals
  go_ret
  refine⟨aN ?_,rfl⟩
  rw[H.o]
  have h0:True:=trivial
  simp[*,bne]
  try omega
def BQ:aa:=[48,49,50,51,52,53,54,55,56,57,65,66,67,68,69,70]
def kU(n:Nat):UInt8:=BQ.getD n 0
theorem Pi(i:Nat)(h:i<(ByteArray.mk #[48,49,50,51,52,53,54,55,56,57,65,66,67,68,69,70]).size):(ByteArray.mk #[48,49,50,51,52,53,54,55,56,57,65,66,67,68,69,70])[i]=kU i:=by
 have h':i<16:=h
 have:∀i:Fin 16,(ByteArray.mk #[48,49,50,51,52,53,54,55,56,57,65,66,67,68,69,70])[i.val]'(i.isLt)=kU i.val:=by decide
 exact this ⟨i,h'⟩
def aK(c:UInt8)(last:Bool):aa:=if aZ c||(dN c&&!last) then [c] else [61,kU (c.toNat / 16),kU (c.toNat % 16)]
theorem kr(c:UInt8)(last:Bool):(aK c last).length<=3:=by unfold aK;split<;>simp
theorem qH(c:UInt8)(last:Bool)(w:World)(h:(aZ c||(dN c&&!last))=true):
  Calls prog 106 #[.int .u8 (c.toNat:Int),.bool last] w fun e w'=>∃v,e=.returned v/\Own w' w.heap.size v [c]/\Below w.heap.size w w':=by
 by_cases h1:aZ c=true
 ·clear h
  go_enter func106,ntmps106
  go_wp2_with (first|(go_at_call 167;refine(bX _ _).mono ?_;rintro e w' ⟨rfl,rfl⟩)|(go_at_call 168;refine(je _ _).mono ?_;rintro e w' ⟨rfl,rfl⟩))
  go_ret
  exact⟨_,rfl,Own.lit _ _ [c] 1 rfl af (by decide),ag.alloc af _⟩
 ·have h1:aZ c=false:=by simpa using h1
  have h2:dN c=true:=by rw[h1]at h;simp at h;exact h.1
  have h3:last=false:=by rw[h1]at h;simp at h;exact h.2
  subst h3
  clear h
  go_enter func106,ntmps106
  go_wp2_with (first|(go_at_call 167;refine(bX _ _).mono ?_;rintro e w' ⟨rfl,rfl⟩)|(go_at_call 168;refine(je _ _).mono ?_;rintro e w' ⟨rfl,rfl⟩))
  go_ret
  exact⟨_,rfl,Own.lit _ _ [c] 1 rfl af (by decide),ag.alloc af _⟩
theorem IW(c:UInt8)(last:Bool)(w:World)(h:(aZ c||(dN c&&!last))=false):
  Calls prog 106 #[.int .u8 (c.toNat:Int),.bool last] w fun e w'=>∃v,e=.returned v/\Own w' w.heap.size v [61,kU (c.toNat / 16),kU (c.toNat % 16)]/\Below w.heap.size w w':=by
 have hb:(c.toNat:Int)<256:=by have:=c.toNat_lt;omega
 have i1:0<=(c.toNat:Int) / 16:=by omega
 have i2:(c.toNat:Int) / 16<16:=by omega
 have i3:0<=(c.toNat:Int) % 16:=by omega
 have i4:(c.toNat:Int) % 16<16:=by omega
 have h1:aZ c=false:=by cases hh:aZ c<;>simp_all
 by_cases h2:dN c=true
 ·have h3:last=true:=by rw[h1,h2]at h;simpa using h
  subst h3
  clear h
  go_enter func106,ntmps106
  go_wp2_with (first|(go_at_call 167;refine(bX _ _).mono ?_;rintro e w' ⟨rfl,rfl⟩)|(go_at_call 168;refine(je _ _).mono ?_;rintro e w' ⟨rfl,rfl⟩))
  go_region
  go_wp2
  go_ret
  simp only[Pi]
  exact⟨_,rfl,Own.lit _ _ [61,_,_] 3 rfl af (by decide),(ag.alloc af _).drew⟩
 ·have h2:dN c=false:=by simpa using h2
  clear h
  go_enter func106,ntmps106
  go_wp2_with (first|(go_at_call 167;refine(bX _ _).mono ?_;rintro e w' ⟨rfl,rfl⟩)|(go_at_call 168;refine(je _ _).mono ?_;rintro e w' ⟨rfl,rfl⟩))
  go_region
  go_wp2
  go_ret
  simp only[Pi]
  exact⟨_,rfl,Own.lit _ _ [61,_,_] 3 rfl af (by decide),(ag.alloc af _).drew⟩
theorem Ng(c:UInt8)(last:Bool)(w:World):
  Calls prog 106 #[.int .u8 (c.toNat:Int),.bool last] w fun e w'=>∃v,e=.returned v/\Own w' w.heap.size v (aK c last)/\Below w.heap.size w w':=by
 unfold aK
 cases h:(aZ c||(dN c&&!last))
 ·exact IW c last w h
 ·exact qH c last w h
def inLinesTo(l:aa):Nat->aa
 | 0=>[]
 | k+1=>inLinesTo l k++[l.getD k 0]++if (k+1) % 76=0\/k+1=l.length then [13,10] else []
theorem inLinesTo_length(l:aa)(k:Nat):(inLinesTo l k).length<=3*k:=by
 induction k with
 | zero=>simp[inLinesTo]
 | succ k ih=>simp only[inLinesTo,List.length_append,List.length_cons,List.length_nil];split<;>simp<;>omega
theorem El(l:aa)(k:Nat)(h:(k+1) % 76=0\/k+1=l.length):inLinesTo l (k+1)=inLinesTo l k++[l.getD k 0]++[13,10]:=by rw[inLinesTo,if_pos h]
theorem GV(l:aa)(k:Nat)(h:¬((k+1) % 76=0\/k+1=l.length)):inLinesTo l (k+1)=inLinesTo l k++[l.getD k 0]:=by rw[inLinesTo,if_neg h,List.append_nil]
theorem Gc(l:aa)(g cap:Nat)(w:World)(hl:l.length<=10000000)(hg:g<w.heap.size)(hc:∀k (hk:k<l.length),w.cell? ⟨g,k,none⟩=some (.int .u8 (l[k].toNat:Int))):
  Calls prog 105 #[.slice (some ⟨g,0,none⟩) l.length cap] w fun e w'=>e=.returned (.string ⟨(inLinesTo l l.length).toArray⟩)/\Below w.heap.size w w':=by
 go_enter func105,ntmps105
 go_wp2
 go_loopw [3,7] (fun v i wr=>∃k:Nat,k<=l.length/\i=.int .i64 k/\Own wr w.heap.size v (inLinesTo l k)/\Below w.heap.size w wr) (fun _ i _=>l.length - (intOf i).toNat)
 case atStart=>exact⟨0,Nat.zero_le _,rfl,Own.nil _ _,Below.refl _ _⟩
 case round=>
  obtain⟨k,hk,rfl,hown,hb⟩:=hrel
  by_cases hlt:k<l.length
  ·have hcx:wr.cell? ⟨g,k,none⟩=some (.int .u8 (l[k].toNat:Int)):=(hb.cell (p:=⟨g,k,none⟩) hg).trans (hc k hlt)
   have hlen:=inLinesTo_length l k
   have hsz:=hb.size
   have hgd:l.getD k 0=l[k]:=by simp[hlt]
   have HG:Hid (l.getD k 0=l[k]):=hgd
   clear hgd
   by_cases hcut:(k+1) % 76=0\/k+1=l.length
   ·have HE:Hid (inLinesTo l (k+1)=inLinesTo l k++[l[k]]++[13,10]):=by show _=_;rw[El l k hcut,HG.o]
    by_cases h76:(k+1) % 76=0
    ·have n1:(((k:Int)+1) % 76==0)=true:=by rw[beq_iff_eq];omega
     clear hcut h76
     go_wp2_with (first|(at_builtin;refine kK wr w _ rfl (.tmp 10) (.tmp 15) rfl w.heap.size _ (inLinesTo l k) rfl hown rfl l[k] rfl (by omega) hsz hb ?_;intro v' w1 hown1 hb1)|(at_builtin;refine ol _ w rfl (.tmp 28) _ rfl w.heap.size _ _ rfl hown1 ⟨#[13,10]⟩ rfl (by simp[ByteArray.size];omega) hb1.size hb1 ?_;intro v2 w2 hown2 hb2))
     go_roundw
     case rel=>exact⟨k+1,by omega,by go_num,by rw[HE.o];exact hown2,hb2⟩
     case measure=>simp[intOf];omega
    ·have n1:(((k:Int)+1) % 76==0)=false:=by rw[beq_eq_false_iff_ne];omega
     have n2:((k:Int)+1==(l.length:Int))=true:=by rw[beq_iff_eq];omega
     clear hcut h76
     go_wp2_with (first|(at_builtin;refine kK wr w _ rfl (.tmp 10) (.tmp 15) rfl w.heap.size _ (inLinesTo l k) rfl hown rfl l[k] rfl (by omega) hsz hb ?_;intro v' w1 hown1 hb1)|(at_builtin;refine ol _ w rfl (.tmp 28) _ rfl w.heap.size _ _ rfl hown1 ⟨#[13,10]⟩ rfl (by simp[ByteArray.size];omega) hb1.size hb1 ?_;intro v2 w2 hown2 hb2))
     go_roundw
     case rel=>exact⟨k+1,by omega,by go_num,by rw[HE.o];exact hown2,hb2⟩
     case measure=>simp[intOf];omega
   ·have HE:Hid (inLinesTo l (k+1)=inLinesTo l k++[l[k]]):=by show _=_;rw[GV l k hcut,HG.o]
    have n1:(((k:Int)+1) % 76==0)=false:=by rw[beq_eq_false_iff_ne];omega
    have n2:((k:Int)+1==(l.length:Int))=false:=by rw[beq_eq_false_iff_ne];omega
    clear hcut
    go_wp2_with (first|(at_builtin;refine kK wr w _ rfl (.tmp 10) (.tmp 15) rfl w.heap.size _ (inLinesTo l k) rfl hown rfl l[k] rfl (by omega) hsz hb ?_;intro v' w1 hown1 hb1))
    go_roundw
    case rel=>exact⟨k+1,by omega,by go_num,by rw[HE.o];exact hown1,hb1⟩
    case measure=>simp[intOf];omega
  ·have:k=l.length:=by omega
   subst this
   have hcv:=hown.string
   go_wp2
   go_ret
   exact⟨rfl,hb⟩
theorem ul(n:Int)(h0:0<=n)(h:n<9223372036854775808):IntKind.i64.wrap n=n:=by
 simp[IntKind.wrap,IntKind.bits,IntKind.signed];omega
theorem o8(i:Nat)(a b:Int)(ha:0<=a)(hb:0<=b)(hm:a % (2 ^ i:Nat)=0)(hb2:b<(2 ^ i:Nat))(h1:a+b<9223372036854775808):bits .or .i64 a b=a+b:=by
 obtain⟨m,rfl⟩:=GL ha
 obtain⟨n,rfl⟩:=GL hb
 have e:=nat_join i m n (by omega) (by omega)
 show IntKind.i64.wrap ((BitVec.ofInt 64 (m:Int) ||| BitVec.ofInt 64 (n:Int)).toNat:Int)=_
 rw[BitVec.toNat_or,ofInt_u64 m (by omega),ofInt_u64 n (by omega),e,ul _ (by omega) (by omega)]
 omega
theorem Au(i:Nat)(a:Int)(ha:0<=a)(h1:a<9223372036854775808)(hi:i<=62):bits .and .i64 a ((2 ^ i - 1:Nat):Int)=a % (2 ^ i:Nat):=by
 obtain⟨m,rfl⟩:=GL ha
 have hp:2 ^ i<=2 ^ 62:=Nat.pow_le_pow_right (by omega) hi
 have e:m &&& (2 ^ i - 1)=m % 2 ^ i:=Nat.and_two_pow_sub_one_eq_mod m i
 have hlt:m % 2 ^ i<=m:=Nat.mod_le _ _
 show IntKind.i64.wrap ((BitVec.ofInt 64 (m:Int) &&& BitVec.ofInt 64 ((2 ^ i - 1:Nat):Int)).toNat:Int)=_
 rw[BitVec.toNat_and,ofInt_u64 m (by omega),ofInt_u64 (2 ^ i - 1) (by omega),e,ul _ (by omega) (by omega)]
 omega
theorem rQ(a:Int)(ha:0<=a)(h1:a<9223372036854775808):bits .and .i64 a 63=a % 64:=by simpa using Au 6 a ha h1 (by omega)
def ry:aa:=[65,66,67,68,69,70,71,72,73,74,75,76,77,78,79,80,81,82,83,84,85,86,87,88,89,90,97,98,99,100,101,102,103,104,105,106,107,108,109,110,111,112,113,114,115,116,117,118,119,120,121,122,48,49,50,51,52,53,54,55,56,57,43,47]
def iN(n:Nat):UInt8:=ry.getD n 0
theorem mF(i:Nat)(h:i<(ByteArray.mk #[65,66,67,68,69,70,71,72,73,74,75,76,77,78,79,80,81,82,83,84,85,86,87,88,89,90,97,98,99,100,101,102,103,104,105,106,107,108,109,110,111,112,113,114,115,116,117,118,119,120,121,122,48,49,50,51,52,53,54,55,56,57,43,47]).size):(ByteArray.mk #[65,66,67,68,69,70,71,72,73,74,75,76,77,78,79,80,81,82,83,84,85,86,87,88,89,90,97,98,99,100,101,102,103,104,105,106,107,108,109,110,111,112,113,114,115,116,117,118,119,120,121,122,48,49,50,51,52,53,54,55,56,57,43,47])[i]=iN i:=by
 have h':i<64:=h
 have:∀i:Fin 64,(ByteArray.mk #[65,66,67,68,69,70,71,72,73,74,75,76,77,78,79,80,81,82,83,84,85,86,87,88,89,90,97,98,99,100,101,102,103,104,105,106,107,108,109,110,111,112,113,114,115,116,117,118,119,120,121,122,48,49,50,51,52,53,54,55,56,57,43,47])[i.val]'(i.isLt)=iN i.val:=by decide
 exact this ⟨i,h'⟩
def JR(N n:Nat):aa:=[iN (N / 262144 % 64),iN (N / 4096 % 64),if 2<=n then iN (N / 64 % 64) else 61,if 3<=n then iN (N % 64) else 61]
def cz(b:aa):Nat:=((b.getD 0 0).toNat*256+(b.getD 1 0).toNat)*256+(b.getD 2 0).toNat
def gJ(b:aa):aa:=JR (cz b) b.length
theorem fourL_length(b:aa):(gJ b).length=4:=rfl
def Et(l:aa):Value:=.agg (cs l).toArray
theorem ZM(x:UInt8)(w:World):
  Calls prog 104 #[.string ⟨#[x]⟩] w fun e w'=>e=.returned (Et (gJ [x]))/\Below w.heap.size w w':=by
 have hx:(x.toNat:Int)<256:=by have:=x.toNat_lt;omega
 have p0:∀h,(ByteArray.mk #[x])[0]'h=x:=fun _=>rfl
 have o1:bits .or .i64 0 (x.toNat:Int)=(x.toNat:Int):=by simpa using o8 8 0 (x.toNat:Int) (by omega) (by omega) (by omega) (by simpa using hx) (by omega)
 go_enter func104,ntmps104
 go_wp2
 refine wp_loop_rounds 4 ?_
 rw[rounds_succ]
 go_wp2
 rw[rounds_succ]
 go_wp2
 rw[rounds_succ]
 go_wp2
 rw[rounds_succ]
 go_wp2
 clear o1 p0
 have hN1:0<=(x.toNat:Int)*256*256:=by omega
 have hN2:(x.toNat:Int)*256*256<16777216:=by omega
 have hN3:(x.toNat:Int)*256*256=(cz [x]:Nat):=by simp[cz]
 have HN:Hid ((x.toNat:Int)*256*256=(cz [x]:Nat)):=hN3
 clear hN3
 generalize (x.toNat:Int)*256*256=N at hN1 hN2 HN ⊢
 clear hx
 have a0:=rQ (N / 262144) (by omega) (by omega)
 have a1:=rQ (N / 4096) (by omega) (by omega)
 have a2:=rQ (N / 64) (by omega) (by omega)
 have a3:=rQ N (by omega) (by omega)
 have b0:N / 262144 % 64<64:=by omega
 have b1:N / 4096 % 64<64:=by omega
 have b2:N / 64 % 64<64:=by omega
 have b3:N % 64<64:=by omega
 have c0:0<=N / 262144 % 64:=by omega
 have c1:0<=N / 4096 % 64:=by omega
 have c2:0<=N / 64 % 64:=by omega
 have c3:0<=N % 64:=by omega
 refine wp_loop_rounds 5 ?_
 rw[rounds_succ]
 go_wp2
 simp only[mF]
 rw[rounds_succ]
 go_wp2
 simp only[mF]
 rw[rounds_succ]
 go_wp2
 rw[rounds_succ]
 go_wp2
 rw[rounds_succ]
 go_wp2
 have hN:=HN.o
 subst hN
 have e0:(((cz [x]:Nat):Int) / 262144 % 64).toNat=cz [x] / 262144 % 64:=by omega
 have e1:(((cz [x]:Nat):Int) / 4096 % 64).toNat=cz [x] / 4096 % 64:=by omega
 simp only[e0,e1]
 exact bodyPost_ret (v:=Et (gJ [x])) (by simp[results,results104,go_sem,Et,gJ,JR,cs]) rfl ⟨rfl,(ag.alloc af _).alloc (by simp) _⟩
theorem Zp(x y:UInt8)(w:World):
  Calls prog 104 #[.string ⟨#[x,y]⟩] w fun e w'=>e=.returned (Et (gJ [x,y]))/\Below w.heap.size w w':=by
 have hx:(x.toNat:Int)<256:=by have:=x.toNat_lt;omega
 have hy:(y.toNat:Int)<256:=by have:=y.toNat_lt;omega
 have p0:∀h,(ByteArray.mk #[x,y])[0]'h=x:=fun _=>rfl
 have p1:∀h,(ByteArray.mk #[x,y])[1]'h=y:=fun _=>rfl
 have o1:bits .or .i64 0 (x.toNat:Int)=(x.toNat:Int):=by simpa using o8 8 0 (x.toNat:Int) (by omega) (by omega) (by omega) (by simpa using hx) (by omega)
 have o2:bits .or .i64 ((x.toNat:Int)*256) (y.toNat:Int)=(x.toNat:Int)*256+(y.toNat:Int):=o8 8 _ _ (by omega) (by omega) (by omega) (by simpa using hy) (by omega)
 go_enter func104,ntmps104
 go_wp2
 refine wp_loop_rounds 4 ?_
 rw[rounds_succ]
 go_wp2
 rw[rounds_succ]
 go_wp2
 rw[rounds_succ]
 go_wp2
 rw[rounds_succ]
 go_wp2
 clear o1 o2 p0 p1
 have hN1:0<=((x.toNat:Int)*256+(y.toNat:Int))*256:=by omega
 have hN2:((x.toNat:Int)*256+(y.toNat:Int))*256<16777216:=by omega
 have hN3:((x.toNat:Int)*256+(y.toNat:Int))*256=(cz [x,y]:Nat):=by simp[cz]
 have HN:Hid (((x.toNat:Int)*256+(y.toNat:Int))*256=(cz [x,y]:Nat)):=hN3
 clear hN3
 generalize ((x.toNat:Int)*256+(y.toNat:Int))*256=N at hN1 hN2 HN ⊢
 clear hx hy
 have a0:=rQ (N / 262144) (by omega) (by omega)
 have a1:=rQ (N / 4096) (by omega) (by omega)
 have a2:=rQ (N / 64) (by omega) (by omega)
 have a3:=rQ N (by omega) (by omega)
 have b0:N / 262144 % 64<64:=by omega
 have b1:N / 4096 % 64<64:=by omega
 have b2:N / 64 % 64<64:=by omega
 have b3:N % 64<64:=by omega
 have c0:0<=N / 262144 % 64:=by omega
 have c1:0<=N / 4096 % 64:=by omega
 have c2:0<=N / 64 % 64:=by omega
 have c3:0<=N % 64:=by omega
 refine wp_loop_rounds 5 ?_
 rw[rounds_succ]
 go_wp2
 simp only[mF]
 rw[rounds_succ]
 go_wp2
 simp only[mF]
 rw[rounds_succ]
 go_wp2
 simp only[mF]
 rw[rounds_succ]
 go_wp2
 rw[rounds_succ]
 go_wp2
 have hN:=HN.o
 subst hN
 have e0:(((cz [x,y]:Nat):Int) / 262144 % 64).toNat=cz [x,y] / 262144 % 64:=by omega
 have e1:(((cz [x,y]:Nat):Int) / 4096 % 64).toNat=cz [x,y] / 4096 % 64:=by omega
 have e2:(((cz [x,y]:Nat):Int) / 64 % 64).toNat=cz [x,y] / 64 % 64:=by omega
 simp only[e0,e1,e2]
 exact bodyPost_ret (v:=Et (gJ [x,y])) (by simp[results,results104,go_sem,Et,gJ,JR,cs]) rfl ⟨rfl,(ag.alloc af _).alloc (by simp) _⟩
theorem ZC(x y z:UInt8)(w:World):
  Calls prog 104 #[.string ⟨#[x,y,z]⟩] w fun e w'=>e=.returned (Et (gJ [x,y,z]))/\Below w.heap.size w w':=by
 have hx:(x.toNat:Int)<256:=by have:=x.toNat_lt;omega
 have hy:(y.toNat:Int)<256:=by have:=y.toNat_lt;omega
 have hz:(z.toNat:Int)<256:=by have:=z.toNat_lt;omega
 have p0:∀h,(ByteArray.mk #[x,y,z])[0]'h=x:=fun _=>rfl
 have p1:∀h,(ByteArray.mk #[x,y,z])[1]'h=y:=fun _=>rfl
 have p2:∀h,(ByteArray.mk #[x,y,z])[2]'h=z:=fun _=>rfl
 have o1:bits .or .i64 0 (x.toNat:Int)=(x.toNat:Int):=by simpa using o8 8 0 (x.toNat:Int) (by omega) (by omega) (by omega) (by simpa using hx) (by omega)
 have o2:bits .or .i64 ((x.toNat:Int)*256) (y.toNat:Int)=(x.toNat:Int)*256+(y.toNat:Int):=o8 8 _ _ (by omega) (by omega) (by omega) (by simpa using hy) (by omega)
 have o3:bits .or .i64 (((x.toNat:Int)*256+(y.toNat:Int))*256) (z.toNat:Int)=((x.toNat:Int)*256+(y.toNat:Int))*256+(z.toNat:Int):=o8 8 _ _ (by omega) (by omega) (by omega) (by simpa using hz) (by omega)
 go_enter func104,ntmps104
 go_wp2
 refine wp_loop_rounds 4 ?_
 rw[rounds_succ]
 go_wp2
 rw[rounds_succ]
 go_wp2
 rw[rounds_succ]
 go_wp2
 rw[rounds_succ]
 go_wp2
 clear o1 o2 o3 p0 p1 p2
 have hN1:0<=((x.toNat:Int)*256+(y.toNat:Int))*256+(z.toNat:Int):=by omega
 have hN2:((x.toNat:Int)*256+(y.toNat:Int))*256+(z.toNat:Int)<16777216:=by omega
 have hN3:((x.toNat:Int)*256+(y.toNat:Int))*256+(z.toNat:Int)=(cz [x,y,z]:Nat):=by simp[cz]
 have HN:Hid (((x.toNat:Int)*256+(y.toNat:Int))*256+(z.toNat:Int)=(cz [x,y,z]:Nat)):=hN3
 clear hN3
 generalize ((x.toNat:Int)*256+(y.toNat:Int))*256+(z.toNat:Int)=N at hN1 hN2 HN ⊢
 clear hx hy hz
 have a0:=rQ (N / 262144) (by omega) (by omega)
 have a1:=rQ (N / 4096) (by omega) (by omega)
 have a2:=rQ (N / 64) (by omega) (by omega)
 have a3:=rQ N (by omega) (by omega)
 have b0:N / 262144 % 64<64:=by omega
 have b1:N / 4096 % 64<64:=by omega
 have b2:N / 64 % 64<64:=by omega
 have b3:N % 64<64:=by omega
 have c0:0<=N / 262144 % 64:=by omega
 have c1:0<=N / 4096 % 64:=by omega
 have c2:0<=N / 64 % 64:=by omega
 have c3:0<=N % 64:=by omega
 refine wp_loop_rounds 5 ?_
 rw[rounds_succ]
 go_wp2
 simp only[mF]
 rw[rounds_succ]
 go_wp2
 simp only[mF]
 rw[rounds_succ]
 go_wp2
 simp only[mF]
 rw[rounds_succ]
 go_wp2
 simp only[mF]
 rw[rounds_succ]
 go_wp2
 have hN:=HN.o
 subst hN
 have e0:(((cz [x,y,z]:Nat):Int) / 262144 % 64).toNat=cz [x,y,z] / 262144 % 64:=by omega
 have e1:(((cz [x,y,z]:Nat):Int) / 4096 % 64).toNat=cz [x,y,z] / 4096 % 64:=by omega
 have e2:(((cz [x,y,z]:Nat):Int) / 64 % 64).toNat=cz [x,y,z] / 64 % 64:=by omega
 have e3:(((cz [x,y,z]:Nat):Int) % 64).toNat=cz [x,y,z] % 64:=by omega
 simp only[e0,e1,e2,e3]
 exact bodyPost_ret (v:=Et (gJ [x,y,z])) (by simp[results,results104,go_sem,Et,gJ,JR,cs]) rfl ⟨rfl,(ag.alloc af _).alloc (by simp) _⟩
theorem UL(b:ByteArray)(w:World)(h0:0<b.size)(h3:b.size<=3):
  Calls prog 104 #[.string b] w fun e w'=>e=.returned (Et (gJ b.data.toList))/\Below w.heap.size w w':=by
 obtain⟨⟨l⟩⟩:=b
 match l,h0,h3 with
 | [],h0,_=>exact absurd h0 (by decide)
 | [x],_,_=>exact ZM x w
 | [x,y],_,_=>exact Zp x y w
 | [x,y,z],_,_=>exact ZC x y z w
 | x::y::z::t::r,_,h3=>exact absurd h3 (by simp[ByteArray.size])
def packTo(b:aa):Nat->aa
 | 0=>[]
 | k+1=>packTo b k++gJ ((b.drop (3*k)).take 3)
theorem packTo_length(b:aa)(k:Nat):(packTo b k).length=4*k:=by
 induction k with
 | zero=>rfl
 | succ k ih=>simp[packTo,ih,fourL_length];omega
def packS(b:aa):aa:=let l:=packTo b ((b.length+2) / 3);inLinesTo l l.length
theorem Hid.mk{p:Prop}(h:p):Hid p:=h
theorem Bw(b:ByteArray)(w:World)(h0:0<b.size)(h3:b.size<=3):
  Calls prog 104 #[.string b] w fun e w'=>∃c0 c1 c2 c3:UInt8,e=.returned (.agg #[.int .u8 (c0.toNat:Int),.int .u8 (c1.toNat:Int),.int .u8 (c2.toNat:Int),.int .u8 (c3.toNat:Int)])/\gJ b.data.toList=[c0,c1,c2,c3]/\Below w.heap.size w w':=
 (UL b w h0 h3).mono fun _ _ ⟨h,hb⟩=>⟨_,_,_,_,h,rfl,hb⟩
theorem KR(w:World):Calls prog 105 #[.slice none 0 0] w fun e w'=>e=.returned (.string ⟨#[]⟩)/\Below w.heap.size w w':=by
 go_enter func105,ntmps105
 go_wp2
 refine wp_loop_rounds 1 ?_
 rw[rounds_succ]
 have hcv:=(Own.nil w 0).string
 go_wp2
 go_ret
 exact⟨rfl,Below.refl _ _⟩
theorem Io(l:aa)(v:Value)(B:Nat)(w:World)(hl:l.length<=10000000)(hown:Own w B v l):
  Calls prog 105 #[v] w fun e w'=>e=.returned (.string ⟨(inLinesTo l l.length).toArray⟩)/\Below w.heap.size w w':=by
 rcases hown.shape with⟨rfl,rfl⟩|⟨g,cap,rfl,_,hg,_,_,hc⟩
 ·exact KR w
 ·exact Gc l g cap w hl hg hc
theorem aB(b:ByteArray)(i j:Nat):(b.extract i j).data.toList=(b.data.toList.drop i).take (j - i):=by
 rw[ByteArray.data_extract,Array.toList_extract,List.extract_eq_take_drop]
theorem Tg(w1:World)(c0 c1 c2 c3:UInt8)(t:TypeId):∀j (hj:j<[c0,c1,c2,c3].length),
  (w1.alloc (.cells #[.int .u8 (c0.toNat:Int),.int .u8 (c1.toNat:Int),.int .u8 (c2.toNat:Int),.int .u8 (c3.toNat:Int)] t)).cell? (Addr.add ⟨w1.heap.size,0,none⟩ j)=some (.int .u8 ([c0,c1,c2,c3][j].toNat:Int)):=by
 intro j hj
 match j,hj with
 | 0,_=>simp[Addr.add_lit]
 | 1,_=>simp[Addr.add_lit]
 | 2,_=>simp[Addr.add_lit]
 | 3,_=>simp[Addr.add_lit]
theorem pack_any(b:ByteArray)(w:World)(hl:b.size<=100000):
  Calls prog 56 #[.string b] w fun e w'=>e=.returned (.string ⟨(packS b.data.toList).toArray⟩)/\Below w.heap.size w w':=by
 have hbl:b.data.toList.length=b.size:=by rw[Array.length_toList];rfl
 have HL:Hid (b.data.toList.length=b.size):=hbl
 clear hbl
 go_enter func56,ntmps56
 go_wp2
 go_loopw [3,10] (fun v i wr=>∃k:Nat,3*k<=b.size+2/\i=.int .i64 k/\Own wr w.heap.size v (packTo b.data.toList k)/\Below w.heap.size w wr) (fun _ i _=>b.size - (intOf i).toNat)
 case atStart=>exact⟨0,by omega,rfl,Own.nil _ _,Below.refl _ _⟩
 case round=>
  obtain⟨k,hk,rfl,hown,hb⟩:=hrel
  by_cases hlt:3*k<b.size
  ·have hsz:=hb.size
   have hT:(k:Int)<((b.size:Int)+2) / 3:=by omega
   have hplen:=packTo_length b.data.toList k
   have HP:Hid ((packTo b.data.toList k).length=4*k):=hplen
   clear hplen
   have hp4:(packTo b.data.toList k).length+4<=1000000000:=by rw[HP.o];omega
   by_cases hc:3*k+3<=b.size
   ·have hc1:(3*k:Int)+3<=(b.size:Int):=by omega
    have HX:Hid (packTo b.data.toList (k+1)=packTo b.data.toList k++gJ (b.extract (3*k) (3*k+3)).data.toList):=by
     show _=_
     rw[aB,show 3*k+3 - 3*k=3 from by omega];rfl
    go_wp2_with (first|(go_at_call 104;refine(Bw _ _ (by simp;omega) (by simp;omega)).mono ?_;rintro e w1 ⟨c0,c1,c2,c3,rfl,hq,hb1⟩;have HQ:=Hid.mk hq;clear hq)|(at_builtin;refine nK _ w rfl (.tmp 24) (.tmp 25) rfl w.heap.size _ (packTo b.data.toList k) rfl ((hown.below hb1 af).alloc _) ⟨w1.heap.size,0,none⟩ 4 4 [c0,c1,c2,c3] rfl rfl (Tg _ _ _ _ _ _) hp4 (by have:=hb1.size;simp;omega) ((hb.trans (hb1.mono hsz)).alloc (by have:=hb1.size;omega) _) ?_;intro v2 w2 hown2 hb2 hg2))
    go_roundw
    case rel=>exact⟨k+1,by omega,by go_num,by rw[HX.o,HQ.o];exact hown2,hb2⟩
    case measure=>simp[intOf];omega
   ·have hc1:(b.size:Int)<(3*k:Int)+3:=by omega
    have HX:Hid (packTo b.data.toList (k+1)=packTo b.data.toList k++gJ (b.extract (3*k) b.size).data.toList):=by
     show _=_
     rw[aB,VQ (i:=b.size - 3*k) (by rw[Ws,HL.o];omega)]
     rw[packTo,VQ (i:=3) (by rw[Ws,HL.o];omega)]
    go_wp2_with (first|(go_at_call 104;refine(Bw _ _ (by simp;omega) (by simp;omega)).mono ?_;rintro e w1 ⟨c0,c1,c2,c3,rfl,hq,hb1⟩;have HQ:=Hid.mk hq;clear hq)|(at_builtin;refine nK _ w rfl (.tmp 24) (.tmp 25) rfl w.heap.size _ (packTo b.data.toList k) rfl ((hown.below hb1 af).alloc _) ⟨w1.heap.size,0,none⟩ 4 4 [c0,c1,c2,c3] rfl rfl (Tg _ _ _ _ _ _) hp4 (by have:=hb1.size;simp;omega) ((hb.trans (hb1.mono hsz)).alloc (by have:=hb1.size;omega) _) ?_;intro v2 w2 hown2 hb2 hg2))
    go_roundw
    case rel=>exact⟨k+1,by omega,by go_num,by rw[HX.o,HQ.o];exact hown2,hb2⟩
    case measure=>simp[intOf];omega
  ·have hT:¬(k:Int)<((b.size:Int)+2) / 3:=by omega
   have hplen:=packTo_length b.data.toList k
   have HP:Hid ((packTo b.data.toList k).length=4*k):=hplen
   clear hplen
   have hp4:(packTo b.data.toList k).length<=10000000:=by rw[HP.o];omega
   go_wp2_with (go_at_call 105;refine(Io (packTo b.data.toList k) _ _ _ hp4 hown).mono ?_;rintro e w1 ⟨rfl,hb1⟩)
   go_ret
   refine⟨AY ?_,hb.trans (hb1.mono hb.size)⟩
   unfold packS
   rw[HL.o,show(b.size+2) / 3=k from by omega]
end Go.Proofs.YtkldkhdigkpniaaGreatDoor.Tx
