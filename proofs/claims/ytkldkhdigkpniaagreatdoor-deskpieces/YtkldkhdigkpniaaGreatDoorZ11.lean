import Derived.Test.YtkldkhdigkpniaaGreatDoorZ3
import Derived.Test.YtkldkhdigkpniaaGreatDoorZ1
import Derived.WalkSmall
import Derived.Lib.IndexMore
set_option maxHeartbeats 1600000
set_option maxRecDepth 100000
open List renaming getElem?_eq_getElem → GL, foldl_append → VQ, take_of_length_le → Ws, getD_eq_getElem?_getD → Xu, take_succ_eq_append_getElem → ZV, take_append_drop → ZW, length_take → ZX
open Nat renaming zero_le → ZY, le_trans → ZZ
namespace Go.Proofs.YtkldkhdigkpniaaGreatDoor.Tx
open Go.RowKit Go.Proofs.Sx Go.Proofs.Tryz
def pF(c:UInt8):Bool:=c==13||c==10||c==32||c==9
theorem CX(c:UInt8):(Lib.indexByte [13,10,32,9] c<0)↔pF c=false:=by
 simp only[Lib.indexByte,pF]
 by_cases h1:c=13
 ·subst h1;simp
 by_cases h2:c=10
 ·subst h2;simp
 by_cases h3:c=32
 ·subst h3;simp
 by_cases h4:c=9
 ·subst h4;simp
 have e1:((13:UInt8)==c)=false:=by rw[beq_eq_false_iff_ne];exact fun h=>h1 h.symm
 have e2:((10:UInt8)==c)=false:=by rw[beq_eq_false_iff_ne];exact fun h=>h2 h.symm
 have e3:((32:UInt8)==c)=false:=by rw[beq_eq_false_iff_ne];exact fun h=>h3 h.symm
 have e4:((9:UInt8)==c)=false:=by rw[beq_eq_false_iff_ne];exact fun h=>h4 h.symm
 simp[e1,e2,e3,e4,h1,h2,h3,h4]
theorem YB(c:UInt8):((c.toNat:Int)).toNat.toUInt8=c:=by simp
def bY(c:UInt8):Int:=Lib.indexByte ry c
def Xw(c:UInt8):Int:=Lib.indexByte BQ c
def U7(c:UInt8):Int:=Lib.indexByte [13,10,32,9] c
theorem sM(z:Int)(c:UInt8)(hz:z=(c.toNat:Int))(w:World):
  Calls prog 170 #[.string ⟨#[65,66,67,68,69,70,71,72,73,74,75,76,77,78,79,80,81,82,83,84,85,86,87,88,89,90,97,98,99,100,101,102,103,104,105,106,107,108,109,110,111,112,113,114,115,116,117,118,119,120,121,122,48,49,50,51,52,53,54,55,56,57,43,47]⟩,.int .u8 z] w fun e w'=>e=.returned (.int .i64 (bY c))/\w'=w:=by
 subst hz
 refine(Tryz.strings_IndexByte _ _ _).mono ?_
 rintro e w' ⟨rfl,rfl⟩
 exact⟨lv (by rw[YB];rfl),rfl⟩
theorem GZ(z:Int)(c:UInt8)(hz:z=(c.toNat:Int))(w:World):
  Calls prog 170 #[.string ⟨#[48,49,50,51,52,53,54,55,56,57,65,66,67,68,69,70]⟩,.int .u8 z] w fun e w'=>e=.returned (.int .i64 (Xw c))/\w'=w:=by
 subst hz
 refine(Tryz.strings_IndexByte _ _ _).mono ?_
 rintro e w' ⟨rfl,rfl⟩
 exact⟨lv (by rw[YB];rfl),rfl⟩
theorem Je(z:Int)(c:UInt8)(hz:z=(c.toNat:Int))(w:World):
  Calls prog 170 #[.string ⟨#[13,10,32,9]⟩,.int .u8 z] w fun e w'=>e=.returned (.int .i64 (U7 c))/\w'=w:=by
 subst hz
 refine(Tryz.strings_IndexByte _ _ _).mono ?_
 rintro e w' ⟨rfl,rfl⟩
 exact⟨lv (by rw[YB];rfl),rfl⟩
def iD(c:UInt8):Int:=Xw (if 97<=c/\c<=102 then c - 32 else c)
theorem uN(c:UInt8)(w:World):
  Calls prog 172 #[.int .u8 (c.toNat:Int)] w fun e w'=>e=.returned (.int .i64 (iD c))/\w'=w:=by
 have hc:(c.toNat:Int)<256:=by have:=c.toNat_lt;omega
 by_cases h:97<=c/\c<=102
 ·have HV:Hid (iD c=Xw (c - 32)):=by show _=_;unfold iD;rw[if_pos h]
  have h1:(97:Int)<=(c.toNat:Int):=by have:=UInt8.le_iff_toNat_le.1 h.1;simp at this;omega
  have h2:(c.toNat:Int)<=102:=by have:=UInt8.le_iff_toNat_le.1 h.2;simp at this;omega
  have HB:Hid ((c.toNat:Int) - 32=((c - 32).toNat:Int)):=by
   show _=_
   rw[UInt8.toNat_sub]
   simp
   omega
  clear h
  go_enter func172,ntmps172
  go_wp2_with (go_at_call 170;refine(GZ _ (c - 32) HB.o _).mono ?_;rintro e w' ⟨rfl,rfl⟩)
  go_ret
  exact⟨lv HV.o.symm,rfl⟩
 ·have HV:Hid (iD c=Xw c):=by show _=_;unfold iD;rw[if_neg h]
  by_cases h1:(97:Int)<=(c.toNat:Int)
  ·have h2:(102:Int)<(c.toNat:Int):=by
    apply Int.not_le.1
    intro h2
    exact h ⟨UInt8.le_iff_toNat_le.2 (by simp;omega),UInt8.le_iff_toNat_le.2 (by simp;omega)⟩
   clear h
   go_enter func172,ntmps172
   go_wp2_with (go_at_call 170;refine(GZ _ c rfl _).mono ?_;rintro e w' ⟨rfl,rfl⟩)
   go_ret
   exact⟨lv HV.o.symm,rfl⟩
  ·clear h
   go_enter func172,ntmps172
   go_wp2_with (go_at_call 170;refine(GZ _ c rfl _).mono ?_;rintro e w' ⟨rfl,rfl⟩)
   go_ret
   exact⟨lv HV.o.symm,rfl⟩
def dE(l:aa):aa:=l.filter fun c=>!pF c
theorem solidL_length(l:aa):(dE l).length<=l.length:=List.length_filter_le _ _
theorem I5(l:aa)(c:UInt8):dE (l++[c])=dE l++if pF c then [] else [c]:=by
 unfold dE
 rw[List.filter_append]
 cases h:pF c<;>simp[h]
theorem mR(s:ByteArray)(k:Nat)(h:k<s.size):s.data.toList.take (k+1)=s.data.toList.take k++[s[k]]:=by
 rw[ZV (by simpa using h)];rfl
theorem ae(s:ByteArray):s.data.toList.length=s.size:=by rw[Array.length_toList];rfl
theorem RY(s:ByteArray)(w:World)(hl:s.size<=100000):
  Calls prog 108 #[.string s] w fun e w'=>∃v,e=.returned v/\Own w' w.heap.size v (dE s.data.toList)/\Below w.heap.size w w':=by
 go_enter func108,ntmps108
 go_wp2
 go_loopw [3,7] (fun v i wr=>∃k:Nat,k<=s.size/\i=.int .i64 k/\Own wr w.heap.size v (dE (s.data.toList.take k))/\Below w.heap.size w wr) (fun _ i _=>s.size - (intOf i).toNat)
 case atStart=>exact⟨0,ZY _,rfl,Own.nil _ _,Below.refl _ _⟩
 case round=>
  obtain⟨k,hk,rfl,hown,hb⟩:=hrel
  by_cases hlt:k<s.size
  ·have hsz:=hb.size
   have hlen:(dE (s.data.toList.take k)).length<=k:=ZZ (solidL_length _) (List.length_take_le _ _)
   have HT:Hid (dE (s.data.toList.take (k+1))=dE (s.data.toList.take k)++if pF s[k] then [] else [s[k]]):=by show _=_;rw[mR s k hlt,I5]
   cases hs:pF s[k]
   ·have hneg:U7 s[k]<0:=(CX s[k]).2 hs
    have HT':Hid (dE (s.data.toList.take (k+1))=dE (s.data.toList.take k)++[s[k]]):=by show _=_;rw[HT.o,hs];rfl
    clear hs HT
    go_wp2_with (first|(go_at_call 170;refine(Je _ s[k] rfl _).mono ?_;rintro e w' ⟨rfl,rfl⟩)|(at_builtin;refine kK _ w _ rfl (.tmp 15) (.tmp 19) rfl w.heap.size _ _ rfl hown rfl s[k] rfl (by omega) hsz hb ?_;intro v' w1 hown1 hb1))
    go_roundw
    case rel=>exact⟨k+1,by omega,by go_num,by rw[HT'.o];exact hown1,hb1⟩
    case measure=>simp[intOf];omega
   ·have hneg:¬U7 s[k]<0:=fun h=>by rw[(CX s[k]).1 h]at hs;cases hs
    have HT':Hid (dE (s.data.toList.take (k+1))=dE (s.data.toList.take k)):=by show _=_;rw[HT.o,hs];simp
    clear hs HT
    go_wp2_with (go_at_call 170;refine(Je _ s[k] rfl _).mono ?_;rintro e w' ⟨rfl,rfl⟩)
    go_roundw
    case rel=>exact⟨k+1,by omega,by go_num,by rw[HT'.o];exact hown,hb⟩
    case measure=>simp[intOf];omega
  ·have:k=s.size:=by omega
   subst this
   go_wp2
   go_ret
   exact⟨_,rfl,by rw[Ws (by rw[ae];omega)]at hown;exact hown,hb⟩
theorem UH(n g cap:Nat)(w:World)(hn:2<=n)(hl:n<=100000)(h0:w.cell? ⟨g,n - 1,none⟩=some (.int .u8 61))(h1:w.cell? ⟨g,n - 1 - 1,none⟩=some (.int .u8 61)):
  Calls prog 110 #[.slice (some ⟨g,0,none⟩) n cap] w fun e w'=>e=.returned (.int .i64 2)/\w'=w:=by
 go_enter func110,ntmps110
 go_wp2
 refine wp_loop_rounds 3 ?_
 rw[rounds_succ]
 go_wp2
 rw[rounds_succ]
 go_wp2
 rw[rounds_succ]
 go_wp2
 go_ret
 exact⟨rfl,rfl⟩
theorem Sn(n g cap:Nat)(w:World)(hn:2<=n)(hl:n<=100000)(c:UInt8)(hc:((c.toNat:Int)==61)=false)(h0:w.cell? ⟨g,n - 1,none⟩=some (.int .u8 61))(h1:w.cell? ⟨g,n - 1 - 1,none⟩=some (.int .u8 (c.toNat:Int))):
  Calls prog 110 #[.slice (some ⟨g,0,none⟩) n cap] w fun e w'=>e=.returned (.int .i64 1)/\w'=w:=by
 go_enter func110,ntmps110
 go_wp2
 refine wp_loop_rounds 2 ?_
 rw[rounds_succ]
 go_wp2
 rw[rounds_succ]
 go_wp2
 go_ret
 exact⟨rfl,rfl⟩
theorem Kv(g cap:Nat)(w:World)(h0:w.cell? ⟨g,0,none⟩=some (.int .u8 61)):
  Calls prog 110 #[.slice (some ⟨g,0,none⟩) 1 cap] w fun e w'=>e=.returned (.int .i64 1)/\w'=w:=by
 go_enter func110,ntmps110
 go_wp2
 refine wp_loop_rounds 2 ?_
 rw[rounds_succ]
 go_wp2
 rw[rounds_succ]
 go_wp2
 go_ret
 exact⟨rfl,rfl⟩
theorem Rb(n g cap:Nat)(w:World)(hn:1<=n)(hl:n<=100000)(c:UInt8)(hc:((c.toNat:Int)==61)=false)(h0:w.cell? ⟨g,n - 1,none⟩=some (.int .u8 (c.toNat:Int))):
  Calls prog 110 #[.slice (some ⟨g,0,none⟩) n cap] w fun e w'=>e=.returned (.int .i64 0)/\w'=w:=by
 go_enter func110,ntmps110
 go_wp2
 refine wp_loop_rounds 1 ?_
 rw[rounds_succ]
 go_wp2
 go_ret
 exact⟨rfl,rfl⟩
theorem vY(a:Option Addr)(cap:Nat)(w:World):
  Calls prog 110 #[.slice a 0 cap] w fun e w'=>e=.returned (.int .i64 0)/\w'=w:=by
 go_enter func110,ntmps110
 go_wp2
 refine wp_loop_rounds 1 ?_
 rw[rounds_succ]
 go_wp2
 go_ret
 exact⟨rfl,rfl⟩
def jo(l:aa):Nat:=if l.getD (l.length - 1) 0=61/\1<=l.length then if l.getD (l.length - 2) 0=61/\2<=l.length then 2 else 1 else 0
theorem U4(l:aa):jo l<=l.length:=by
 unfold jo
 split
 ·split<;>omega
 ·omega
theorem Zd(c:UInt8)(h:¬c=61):((c.toNat:Int)==61)=false:=by
 rw[show(61:Int)=((61:UInt8).toNat:Int)from rfl,CV]
 simpa using h
theorem Uf(l:aa)(v:Value)(B:Nat)(w:World)(hl:l.length<=100000)(hown:Own w B v l):
  Calls prog 110 #[v] w fun e w'=>e=.returned (.int .i64 (jo l:Nat))/\w'=w:=by
 rcases hown.shape with⟨rfl,rfl⟩|⟨g,cap,rfl,_,hg,_,_,hc⟩
 ·exact vY _ _ w
 ·by_cases h1:1<=l.length
  ·have c1:=hc (l.length - 1) (by omega)
   have g1:l.getD (l.length - 1) 0=l[l.length - 1]:=by rw[Xu,GL (by omega)];rfl
   by_cases e1:l[l.length - 1]=61
   ·rw[e1]at c1
    by_cases h2:2<=l.length
    ·have c2:=hc (l.length - 2) (by omega)
     have g2:l.getD (l.length - 2) 0=l[l.length - 2]:=by rw[Xu,GL (by omega)];rfl
     by_cases e2:l[l.length - 2]=61
     ·rw[e2]at c2
      unfold jo
      rw[if_pos ⟨g1.trans e1,h1⟩,if_pos ⟨g2.trans e2,h2⟩]
      exact UH _ g cap w h2 hl c1 c2
     ·unfold jo
      rw[if_pos ⟨g1.trans e1,h1⟩,if_neg (fun h=>e2 (g2▸h.1))]
      exact Sn _ g cap w h2 hl _ (Zd _ e2) c1 c2
    ·unfold jo
     rw[if_pos ⟨g1.trans e1,h1⟩,if_neg (fun h=>h2 h.2)]
     have hl1:l.length=1:=by omega
     rw[hl1]at c1 ⊢
     exact Kv g cap w c1
   ·unfold jo
    rw[if_neg (fun h=>e1 (g1▸h.1))]
    exact Rb _ g cap w h1 hl _ (Zd _ e1) c1
  ·have hl0:l.length=0:=by omega
   unfold jo
   rw[if_neg (fun h=>h1 h.2),hl0]
   exact vY _ _ w
def joinStep(q:aa×Nat×Nat)(c:UInt8):Option (aa×Nat×Nat):=
 if bY c<0 then none
 else if 8<=q.2.2+6 then some (q.1++[UInt8.ofNat ((q.2.1*64+(bY c).toNat) / 2 ^ (q.2.2+6 - 8))],(q.2.1*64+(bY c).toNat) % 2 ^ (q.2.2+6 - 8),q.2.2+6 - 8)
 else some (q.1,q.2.1*64+(bY c).toNat,q.2.2+6)
def joinAll(l:aa):Option (aa×Nat×Nat):=l.foldl (fun q c=>q.bind fun q=>joinStep q c) (some ([],0,0))
theorem joinAll_snoc(l:aa)(c:UInt8):joinAll (l++[c])=(joinAll l).bind fun q=>joinStep q c:=by
 unfold joinAll;rw[VQ];rfl
theorem Gx(a b:aa)(h:joinAll a=none):joinAll (a++b)=none:=by
 unfold joinAll at h ⊢
 rw[VQ,h]
 induction b with
 | nil=>rfl
 | cons c b ih=>exact ih
def joinedS(l:aa):Option (aa):=(joinAll l).bind fun q=>if q.2.1=0 then some q.1 else none
theorem yl(l:aa)(c:UInt8):Lib.indexByte l c<l.length\/Lib.indexByte l c=-1:=by
 induction l with
 | nil=>exact .inr rfl
 | cons b l ih=>
  unfold Lib.indexByte
  split
  ·left;simp
  ·split
   ·exact .inr rfl
   ·rename_i h
    left
    have:=Lib.indexByte_ge l c
    simp at h ⊢
    omega
theorem SK(c:UInt8):bY c<64:=by
 have:bY c<ry.length\/bY c=-1:=yl ry c
 have h:ry.length=64:=rfl
 omega
theorem jg(l:aa)(k:Nat)(h:k<l.length):l.take (k+1)=l.take k++[l[k]]:=ZV h
theorem ow(z:Int)(n:Nat)(hz:z=(n:Int))(hn:n<256):z=((UInt8.ofNat n).toNat:Int):=by
 subst hz;rw[UInt8.toNat_ofNat',Nat.mod_eq_of_lt hn]
theorem Kt(l:aa)(g cap:Nat)(w:World)(hl:l.length<=100000)(hg:g<w.heap.size)(hc:∀k (hk:k<l.length),w.cell? ⟨g,k,none⟩=some (.int .u8 (l[k].toNat:Int))):
  Calls prog 109 #[.slice (some ⟨g,0,none⟩) l.length cap] w fun e w'=>∃v,e=.returned (.tuple #[v,.bool (joinedS l).isSome])/\(∀o,joinedS l=some o->Own w' w.heap.size v o)/\Below w.heap.size w w':=by
 go_enter func109,ntmps109
 go_wp2
 go_loopw [4,5,6,11] (fun v b n i wr=>∃(k N C:Nat) (o:aa),k<=l.length/\i=.int .i64 k/\b=.int .i64 N/\n=.int .i64 C/\Own wr w.heap.size v o/\Below w.heap.size w wr/\o.length<=k/\N<2 ^ C/\(C=0\/C=2\/C=4\/C=6)/\Hid (joinAll (l.take k)=some (o,N,C))) (fun _ _ _ i _=>l.length - (intOf i).toNat)
 case atStart=>exact⟨0,0,0,[],ZY _,rfl,rfl,rfl,Own.nil _ _,Below.refl _ _,ZY _,by decide,.inl rfl,rfl⟩
 case round=>
  obtain⟨k,N,C,o,hk,rfl,rfl,rfl,hown,hb,ho,hNC,hC,HJ⟩:=hrel
  have hsz:=hb.size
  by_cases hlt:k<l.length
  ·have hcx:wr.cell? ⟨g,k,none⟩=some (.int .u8 (l[k].toNat:Int)):=(hb.cell (p:=⟨g,k,none⟩) hg).trans (hc k hlt)
   have hv2:=SK l[k]
   by_cases hv:bY l[k]<0
   ·have HN:Hid (joinedS l=none):=by
     show _=_
     have h1:joinAll (l.take (k+1))=none:=by
      rw[jg l k hlt,joinAll_snoc,HJ.o]
      show joinStep _ _=_
      unfold joinStep
      rw[if_pos hv]
     have h2:=Gx (l.take (k+1)) (l.drop (k+1)) h1
     rw[ZW]at h2
     unfold joinedS
     rw[h2];rfl
    clear hNC hC
    go_wp2_with (first|(go_at_call 170;refine(sM _ l[k] rfl _).mono ?_;rintro e w' ⟨rfl,rfl⟩))
    go_ret2
    refine⟨.slice none 0 0,?_,?_,hb⟩
    ·rw[HN.o];rfl
    ·intro q h;rw[HN.o]at h;cases h
   have hv1:0<=bY l[k]:=by omega
   rcases hC with hC|hC|hC|hC
   ·subst hC
    have hN:N<1:=by simpa using hNC
    have o1:bits .or .i64 ((N:Int)*64) (bY l[k])=(N:Int)*64+bY l[k]:=o8 6 _ _ (by omega) (by omega) (by omega) (by simpa using hv2) (by omega)
    have HE:Hid (joinAll (l.take (k+1))=some (o,N*64+(bY l[k]).toNat,6)):=by
     show _=_
     rw[jg l k hlt,joinAll_snoc,HJ.o]
     show joinStep _ _=_
     unfold joinStep
     rw[if_neg hv,if_neg (by show ¬8<=0+6;omega)]
    clear hNC
    go_wp2_with (first|(go_at_call 170;refine(sM _ l[k] rfl _).mono ?_;rintro e w' ⟨rfl,rfl⟩))
    go_roundw
    case rel=>exact⟨k+1,N*64+(bY l[k]).toNat,6,o,by omega,by go_num,by congr 1;omega,rfl,hown,hb,by omega,by simp;omega,by omega,HE⟩
    case measure=>simp[intOf];omega
   ·subst hC
    have hN:N<4:=by simpa using hNC
    have o1:bits .or .i64 ((N:Int)*64) (bY l[k])=(N:Int)*64+bY l[k]:=o8 6 _ _ (by omega) (by omega) (by omega) (by simpa using hv2) (by omega)
    have HE:Hid (joinAll (l.take (k+1))=some (o++[UInt8.ofNat ((N*64+(bY l[k]).toNat) / 1)],(N*64+(bY l[k]).toNat) % 1,0)):=by
     show _=_
     rw[jg l k hlt,joinAll_snoc,HJ.o]
     show joinStep _ _=_
     unfold joinStep
     rw[if_neg hv,if_pos (by show 8<=2+6;omega)];rfl
    have HU:Hid (((N:Int)*64+bY l[k])=((UInt8.ofNat ((N*64+(bY l[k]).toNat) / 1)).toNat:Int)):=ow _ _ (by omega) (by omega)
    have a1:bits .and .i64 ((N:Int)*64+bY l[k]) 0=((N:Int)*64+bY l[k]) % 1:=by simpa using Au 0 ((N:Int)*64+bY l[k]) (by omega) (by omega) (by omega)
    clear hNC
    go_wp2_with (first|(go_at_call 170;refine(sM _ l[k] rfl _).mono ?_;rintro e w' ⟨rfl,rfl⟩)|(at_builtin;refine kK _ w _ rfl (.tmp 31) (.tmp 36) rfl w.heap.size _ o rfl hown rfl _ HU.o (by omega) hsz hb ?_;intro v' w1 hown1 hb1))
    go_roundw
    case rel=>exact⟨k+1,(N*64+(bY l[k]).toNat) % 1,0,o++[UInt8.ofNat ((N*64+(bY l[k]).toNat) / 1)],by omega,by go_num,by congr 1;omega,rfl,hown1,hb1,by simp;omega,by simp;omega,by omega,HE⟩
    case measure=>simp[intOf];omega
   ·subst hC
    have hN:N<16:=by simpa using hNC
    have o1:bits .or .i64 ((N:Int)*64) (bY l[k])=(N:Int)*64+bY l[k]:=o8 6 _ _ (by omega) (by omega) (by omega) (by simpa using hv2) (by omega)
    have HE:Hid (joinAll (l.take (k+1))=some (o++[UInt8.ofNat ((N*64+(bY l[k]).toNat) / 4)],(N*64+(bY l[k]).toNat) % 4,2)):=by
     show _=_
     rw[jg l k hlt,joinAll_snoc,HJ.o]
     show joinStep _ _=_
     unfold joinStep
     rw[if_neg hv,if_pos (by show 8<=4+6;omega)];rfl
    have HU:Hid (((N:Int)*64+bY l[k]) / 4=((UInt8.ofNat ((N*64+(bY l[k]).toNat) / 4)).toNat:Int)):=ow _ _ (by omega) (by omega)
    have a1:bits .and .i64 ((N:Int)*64+bY l[k]) 3=((N:Int)*64+bY l[k]) % 4:=by simpa using Au 2 ((N:Int)*64+bY l[k]) (by omega) (by omega) (by omega)
    clear hNC
    go_wp2_with (first|(go_at_call 170;refine(sM _ l[k] rfl _).mono ?_;rintro e w' ⟨rfl,rfl⟩)|(at_builtin;refine kK _ w _ rfl (.tmp 31) (.tmp 36) rfl w.heap.size _ o rfl hown rfl _ HU.o (by omega) hsz hb ?_;intro v' w1 hown1 hb1))
    go_roundw
    case rel=>exact⟨k+1,(N*64+(bY l[k]).toNat) % 4,2,o++[UInt8.ofNat ((N*64+(bY l[k]).toNat) / 4)],by omega,by go_num,by congr 1;omega,rfl,hown1,hb1,by simp;omega,by simp;omega,by omega,HE⟩
    case measure=>simp[intOf];omega
   ·subst hC
    have hN:N<64:=by simpa using hNC
    have o1:bits .or .i64 ((N:Int)*64) (bY l[k])=(N:Int)*64+bY l[k]:=o8 6 _ _ (by omega) (by omega) (by omega) (by simpa using hv2) (by omega)
    have HE:Hid (joinAll (l.take (k+1))=some (o++[UInt8.ofNat ((N*64+(bY l[k]).toNat) / 16)],(N*64+(bY l[k]).toNat) % 16,4)):=by
     show _=_
     rw[jg l k hlt,joinAll_snoc,HJ.o]
     show joinStep _ _=_
     unfold joinStep
     rw[if_neg hv,if_pos (by show 8<=6+6;omega)];rfl
    have HU:Hid (((N:Int)*64+bY l[k]) / 16=((UInt8.ofNat ((N*64+(bY l[k]).toNat) / 16)).toNat:Int)):=ow _ _ (by omega) (by omega)
    have a1:bits .and .i64 ((N:Int)*64+bY l[k]) 15=((N:Int)*64+bY l[k]) % 16:=by simpa using Au 4 ((N:Int)*64+bY l[k]) (by omega) (by omega) (by omega)
    clear hNC
    go_wp2_with (first|(go_at_call 170;refine(sM _ l[k] rfl _).mono ?_;rintro e w' ⟨rfl,rfl⟩)|(at_builtin;refine kK _ w _ rfl (.tmp 31) (.tmp 36) rfl w.heap.size _ o rfl hown rfl _ HU.o (by omega) hsz hb ?_;intro v' w1 hown1 hb1))
    go_roundw
    case rel=>exact⟨k+1,(N*64+(bY l[k]).toNat) % 16,4,o++[UInt8.ofNat ((N*64+(bY l[k]).toNat) / 16)],by omega,by go_num,by congr 1;omega,rfl,hown1,hb1,by simp;omega,by simp;omega,by omega,HE⟩
    case measure=>simp[intOf];omega
  ·have HE:Hid (joinedS l=if N=0 then some o else none):=by
    show _=_
    have hJ:=HJ.o
    rw[Ws (by omega)]at hJ
    unfold joinedS
    rw[hJ];rfl
   clear hNC hC
   go_wp2
   go_ret2
   refine⟨u4,?_,?_,hb⟩
   ·rw[HE.o]
    by_cases h0:N=0
    ·subst h0;rfl
    ·have:((N:Int)==0)=false:=by rw[beq_eq_false_iff_ne];omega
     rw[this,if_neg h0];rfl
   ·intro q h
    rw[HE.o]at h
    split at h
    ·cases h;exact hown
    ·cases h
theorem Nk(w:World):Calls prog 109 #[.slice none 0 0] w fun e w'=>e=.returned (.tuple #[.slice none 0 0,.bool true])/\w'=w:=by
 go_enter func109,ntmps109
 go_wp2
 refine wp_loop_rounds 1 ?_
 rw[rounds_succ]
 go_wp2
 go_ret2
 exact⟨rfl,rfl⟩
theorem CJ(l:aa)(v:Value)(B:Nat)(w:World)(hl:l.length<=100000)(hown:Own w B v l):
  Calls prog 109 #[v] w fun e w'=>∃v,e=.returned (.tuple #[v,.bool (joinedS l).isSome])/\(∀o,joinedS l=some o->Own w' w.heap.size v o)/\Below w.heap.size w w':=by
 rcases hown.shape with⟨rfl,rfl⟩|⟨g,cap,rfl,_,hg,_,_,hc⟩
 ·refine(Nk w).mono ?_
  rintro e w' ⟨rfl,rfl⟩
  refine⟨_,rfl,?_,Below.refl _ _⟩
  intro o h
  cases h
  exact Own.nil _ _
 ·exact Kt l g cap w hl hg hc
def unV:Option (aa)->Value
 | some o=>.tuple #[.string ⟨o.toArray⟩,.nilIface]
 | none=>.tuple #[.string ⟨#[]⟩,.iface 25 (.int .i64 3)]
def unpackS(s:aa):Option (aa):=if (dE s).length % 4=0 then joinedS ((dE s).take ((dE s).length - jo (dE s))) else none
theorem unpack_any(s:ByteArray)(w:World)(hl:s.size<=100000):
  Calls prog 59 #[.string s] w fun e w'=>e=.returned (unV (unpackS s.data.toList))/\Below w.heap.size w w':=by
 have hlen:=solidL_length s.data.toList
 rw[ae]at hlen
 have HS:Hid (unpackS s.data.toList=if (dE s.data.toList).length % 4=0 then joinedS ((dE s.data.toList).take ((dE s.data.toList).length - jo (dE s.data.toList))) else none):=rfl
 go_enter func59,ntmps59
 go_wp2_with fail
 refine(RY s _ hl).mono ?_
 rintro e w1 ⟨v,rfl,hown,hb⟩
 generalize dE s.data.toList=l at hlen HS hown
 have hf:=U4 l
 by_cases h4:l.length % 4=0
 ·have HS':Hid (unpackS s.data.toList=joinedS (l.take (l.length - jo l))):=by show _=_;rw[HS.o,if_pos h4]
  clear HS
  rcases hown.shape with⟨rfl,rfl⟩|⟨g,cap,rfl,hB,hg,hcap,hmax,hc⟩
  ·have hown2:Own w1 w.heap.size (.slice none 0 0) []:=Own.nil _ _
   have HM:([]:aa).length<=100000:=by simp
   have HS'':Hid (unpackS s.data.toList=joinedS []):=HS'
   clear HS'
   have HS':=HS''
   clear HS'' hf h4 hlen
   go_wp2_with (first|(go_at_call 110;refine(vY _ _ _).mono ?_;rintro e w2 ⟨rfl,rfl⟩))
   refine(CJ [] _ _ _ HM hown2).mono ?_
   rintro e w3 ⟨v3,rfl,ho3,hb3⟩
   have hb4:Below w.heap.size w w3:=hb.trans (hb3.mono hb.size)
   cases hj:joinedS []with
   | none=>
    have HJ:=Hid.mk hj
    clear hj ho3 hb3
    go_wp2
    go_ret2
    exact⟨by rw[HS'.o,HJ.o];rfl,hb4⟩
   | some o=>
    have ho4:=ho3 o hj
    have HJ:=Hid.mk hj
    clear hj ho3 hb3
    have hcv:=ho4.string
    go_wp2
    go_ret2
    exact⟨by rw[HS'.o,HJ.o];rfl,hb4⟩
  ·have t4:((l.length:Int) % 4 != 0)=false:=by simp;omega
   have hown2:=hown.take (l.length - jo l) (by omega)
   have HM:(l.take (l.length - jo l)).length<=100000:=by rw[ZX];omega
   go_wp2_with (first|(go_at_call 110;refine(Uf l _ _ _ (by omega) hown).mono ?_;rintro e w2 ⟨rfl,rfl⟩))
   generalize l.take (l.length - jo l)=m at hown2 HS' HM
   refine(CJ m _ _ _ HM hown2).mono ?_
   rintro e w3 ⟨v3,rfl,ho3,hb3⟩
   have hb4:Below w.heap.size w w3:=hb.trans (hb3.mono hb.size)
   cases hj:joinedS m with
   | none=>
    have HJ:=Hid.mk hj
    clear hj ho3 hb3
    go_wp2
    go_ret2
    exact⟨by rw[HS'.o,HJ.o];rfl,hb4⟩
   | some o=>
    have ho4:=ho3 o hj
    have HJ:=Hid.mk hj
    clear hj ho3 hb3
    have hcv:=ho4.string
    go_wp2
    go_ret2
    exact⟨by rw[HS'.o,HJ.o];rfl,hb4⟩
 ·have HS':Hid (unpackS s.data.toList=none):=by show _=_;rw[HS.o,if_neg h4]
  clear HS
  have t4:((l.length:Int) % 4 != 0)=true:=by simp;omega
  rcases hown.shape with⟨rfl,rfl⟩|⟨g,cap,rfl,hB,hg,hcap,hmax,hc⟩
  ·exact absurd rfl h4
  ·go_wp2
   go_ret2
   exact⟨by rw[HS'.o];rfl,hb⟩
section
variable {ops:Array Oper} {rest:List Oper} {o:Oper} {a:Act} {Q:Exit->Act->World->Prop}
theorem Ji(W w0:World)(hgd:o.guard=none)(s x:Operand)(ho:o.op=.call { callee:=.builtin .append,args:=#[s,x],argTypes:=#[32,9] })
  (B:Nat) (v:Value) (l:aa) (hs:a.eval s=v) (hown:Own W B v l) (t:ByteArray) (hx:a.eval x=.string t) (hl:l.length+t.size<=1000000000) (hB:B<=W.heap.size) (hb:Below B w0 W)
  (h:∀v' w',Own w' B v' (l++t.data.toList)->Below B w0 w'->W.grownBy w' v.ownBlock->wpList prog ops Q rest (a.put o.dst v') w'):wpList prog ops Q (o::rest) a W:=by
 obtain⟨i0,hi,hz0,hz1,hz2⟩:=info_parts Tryz.infoByte
 refine Lib.wpList_append_own_string W hgd s x 32 9 ho B 5 i0 underlying32 underlying9 hi hz0 hz1 hz2 v l.length (cs l) hs hown t hx (by unfold maxLen;omega) (by omega) hB ?_
 intro v' w' h1 h2 _
 refine h v' w' ?_ (hb.grown h2 hB (fun k hk=>(hown.lt k hk).1)) h2
 unfold Own
 rw[List.length_append,mJ]
 exact h1
end
theorem _root_.Go.Proofs.YtkldkhdigkpniaaGreatDoor.Own.kept{w w1 w':World}{B B':Nat}{v u:Value}{l m:aa}(h:Own w B v l)(hu:Own w1 B' u m)(hB:w1.heap.size<=B)(hg:w.grownBy w' u.ownBlock):Own w' B v l:=by
 refine World.ownsRow.kept h hg ?_
 cases hv:v.ownBlock with
 | none=>exact .inl rfl
 | some k=>
  right
  intro e
  have h1:=h.lt k hv
  have h2:=hu.lt k e.symm
  omega
def dx(b:aa):Nat->aa×Nat
 | 0=>([],0)
 | k+1=>
  if (if k+1=b.length then 76 else 75)<(dx b k).2+(aK (b.getD k 0) (decide (k+1=b.length))).length
  then ((dx b k).1++[61,13,10]++aK (b.getD k 0) (decide (k+1=b.length)),(aK (b.getD k 0) (decide (k+1=b.length))).length)
  else ((dx b k).1++aK (b.getD k 0) (decide (k+1=b.length)),(dx b k).2+(aK (b.getD k 0) (decide (k+1=b.length))).length)
def quoteS(b:aa):aa:=(dx b b.length).1
theorem quoteTo_length(b:aa)(k:Nat):(dx b k).1.length<=6*k/\(dx b k).2<=3*k:=by
 induction k with
 | zero=>simp[dx]
 | succ k ih=>
  have:=kr (b.getD k 0) (decide (k+1=b.length))
  rw[dx]
  generalize aK (b.getD k 0) (decide (k+1=b.length))=q at *
  generalize dx b k=r at *
  generalize (if k+1=b.length then 76 else 75)=m at *
  split<;>simp<;>omega
theorem KT(c:UInt8)(last:Bool):1<=(aK c last).length:=by unfold aK;split<;>simp
theorem _root_.Go.Proofs.YtkldkhdigkpniaaGreatDoor.Own.cells{w:World}{B g n cap:Nat}{l:aa}(h:Own w B (.slice (some ⟨g,0,none⟩) n cap) l):∀j (hj:j<l.length),w.cell? (Addr.add ⟨g,0,none⟩ j)=some (.int .u8 (l[j].toNat:Int)):=by
 intro j hj
 rcases h.shape with⟨h',_⟩|⟨g',cap',h',_,_,_,_,hc⟩
 ·cases h'
 ·simp only[Value.slice.injEq,Option.some.injEq,Addr.mk.injEq,and_true]at h'
  obtain⟨rfl,_,_⟩:=h'
  rw[Addr.add_lit,Nat.zero_add]
  exact hc j hj
theorem mH(c:UInt8)(last:Bool)(w:World):
  Calls prog 106 #[.int .u8 (c.toNat:Int),.bool last] w fun e w'=>∃g cap,e=.returned (.slice (some ⟨g,0,none⟩) (aK c last).length cap)/\Own w' w.heap.size (.slice (some ⟨g,0,none⟩) (aK c last).length cap) (aK c last)/\Below w.heap.size w w':=by
 refine(Ng c last w).mono ?_
 rintro e w' ⟨v,rfl,ho,hb⟩
 rcases ho.shape with⟨_,h⟩|⟨g,cap,rfl,_⟩
 ·have:=KT c last
  rw[h]at this
  simp at this
 ·exact⟨g,cap,rfl,ho,hb⟩
theorem quote_any(b:ByteArray)(w:World)(hl:b.size<=100000):
  Calls prog 57 #[.string b] w fun e w'=>e=.returned (.string ⟨(quoteS b.data.toList).toArray⟩)/\Below w.heap.size w w':=by
 have HL:Hid (b.data.toList.length=b.size):=ae b
 go_enter func57,ntmps57
 go_wp2
 go_loopw [3,4,11] (fun v g i wr=>∃(k G:Nat) (o:aa),k<=b.size/\i=.int .i64 k/\g=.int .i64 G/\Own wr w.heap.size v o/\Below w.heap.size w wr/\o.length<=6*k/\G<=3*k/\Hid (dx b.data.toList k=(o,G))) (fun _ _ i _=>b.size - (intOf i).toNat)
 case atStart=>exact⟨0,0,[],ZY _,rfl,rfl,Own.nil _ _,Below.refl _ _,by simp,by simp,rfl⟩
 case round=>
  obtain⟨k,G,o,hk,rfl,rfl,hown,hb,ho,hG,HQ⟩:=hrel
  by_cases hlt:k<b.size
  ·have hsz:=hb.size
   have HG:Hid (b.data.toList.getD k 0=b[k]):=by
    show _=_
    rw[Xu,GL (by rw[HL.o];exact hlt)];rfl
   by_cases hla:k+1=b.size
   ·have t1:((k:Int)==(b.size:Int) - 1)=true:=by rw[beq_iff_eq];omega
    have HX:Hid (dx b.data.toList (k+1)=if 76<G+(aK b[k] true).length then (o++[61,13,10]++aK b[k] true,(aK b[k] true).length) else (o++aK b[k] true,G+(aK b[k] true).length)):=by
     show _=_
     rw[dx,HQ.o,HG.o,HL.o,if_pos hla,decide_eq_true hla]
    have hq3:=kr b[k] true
    clear hla
    by_cases hov:76<G+(aK b[k] true).length
    ·have t2:(76:Int)<(G:Int)+((aK b[k] true).length:Int):=by omega
     have HY:Hid (dx b.data.toList (k+1)=(o++[61,13,10]++aK b[k] true,(aK b[k] true).length)):=by show _=_;rw[HX.o,if_pos hov]
     clear HX hov
     go_wp2_with (first|(go_at_call 106;refine(mH b[k] true _).mono ?_;rintro e w1 ⟨g1,cap1,rfl,hov,hb1⟩)|(at_builtin;refine Ji _ w rfl (.tmp 31) _ rfl w.heap.size _ o rfl (hown.below hb1 af) ⟨#[61,13,10]⟩ rfl (by simp[ByteArray.size];omega) (by have:=hb1.size;omega) (hb.trans (hb1.mono hsz)) ?_;intro v2 w2 hown2 hb2 hg2)|(at_builtin;refine nK _ w rfl (.tmp 33) (.tmp 34) rfl w.heap.size _ _ rfl hown2 ⟨g1,0,none⟩ _ cap1 (aK b[k] true) rfl rfl (hov.kept hown af hg2).cells (by simp;omega) hb2.size hb2 ?_;intro v3 w3 hown3 hb3 hg3))
     go_roundw
     case rel=>exact⟨k+1,_,_,by omega,by go_num,rfl,hown3,hb3,by simp;omega,by omega,HY⟩
     case measure=>simp[intOf];omega
    ·have t2:¬(76:Int)<(G:Int)+((aK b[k] true).length:Int):=by omega
     have HY:Hid (dx b.data.toList (k+1)=(o++aK b[k] true,G+(aK b[k] true).length)):=by show _=_;rw[HX.o,if_neg hov]
     clear HX hov
     go_wp2_with (first|(go_at_call 106;refine(mH b[k] true _).mono ?_;rintro e w1 ⟨g1,cap1,rfl,hov,hb1⟩)|(at_builtin;refine nK _ w rfl (.tmp 33) (.tmp 34) rfl w.heap.size _ o rfl (hown.below hb1 af) ⟨g1,0,none⟩ _ cap1 (aK b[k] true) rfl rfl hov.cells (by omega) (by have:=hb1.size;omega) (hb.trans (hb1.mono hsz)) ?_;intro v3 w3 hown3 hb3 hg3))
     go_roundw
     case rel=>exact⟨k+1,_,_,by omega,by go_num,by congr 1,hown3,hb3,by simp;omega,by omega,HY⟩
     case measure=>simp[intOf];omega
   ·have t1:((k:Int)==(b.size:Int) - 1)=false:=by rw[beq_eq_false_iff_ne];omega
    have HX:Hid (dx b.data.toList (k+1)=if 75<G+(aK b[k] false).length then (o++[61,13,10]++aK b[k] false,(aK b[k] false).length) else (o++aK b[k] false,G+(aK b[k] false).length)):=by
     show _=_
     rw[dx,HQ.o,HG.o,HL.o,if_neg hla,decide_eq_false hla]
    have hq3:=kr b[k] false
    clear hla
    by_cases hov:75<G+(aK b[k] false).length
    ·have t2:(75:Int)<(G:Int)+((aK b[k] false).length:Int):=by omega
     have HY:Hid (dx b.data.toList (k+1)=(o++[61,13,10]++aK b[k] false,(aK b[k] false).length)):=by show _=_;rw[HX.o,if_pos hov]
     clear HX hov
     go_wp2_with (first|(go_at_call 106;refine(mH b[k] false _).mono ?_;rintro e w1 ⟨g1,cap1,rfl,hov,hb1⟩)|(at_builtin;refine Ji _ w rfl (.tmp 31) _ rfl w.heap.size _ o rfl (hown.below hb1 af) ⟨#[61,13,10]⟩ rfl (by simp[ByteArray.size];omega) (by have:=hb1.size;omega) (hb.trans (hb1.mono hsz)) ?_;intro v2 w2 hown2 hb2 hg2)|(at_builtin;refine nK _ w rfl (.tmp 33) (.tmp 34) rfl w.heap.size _ _ rfl hown2 ⟨g1,0,none⟩ _ cap1 (aK b[k] false) rfl rfl (hov.kept hown af hg2).cells (by simp;omega) hb2.size hb2 ?_;intro v3 w3 hown3 hb3 hg3))
     go_roundw
     case rel=>exact⟨k+1,_,_,by omega,by go_num,rfl,hown3,hb3,by simp;omega,by omega,HY⟩
     case measure=>simp[intOf];omega
    ·have t2:¬(75:Int)<(G:Int)+((aK b[k] false).length:Int):=by omega
     have HY:Hid (dx b.data.toList (k+1)=(o++aK b[k] false,G+(aK b[k] false).length)):=by show _=_;rw[HX.o,if_neg hov]
     clear HX hov
     go_wp2_with (first|(go_at_call 106;refine(mH b[k] false _).mono ?_;rintro e w1 ⟨g1,cap1,rfl,hov,hb1⟩)|(at_builtin;refine nK _ w rfl (.tmp 33) (.tmp 34) rfl w.heap.size _ o rfl (hown.below hb1 af) ⟨g1,0,none⟩ _ cap1 (aK b[k] false) rfl rfl hov.cells (by omega) (by have:=hb1.size;omega) (hb.trans (hb1.mono hsz)) ?_;intro v3 w3 hown3 hb3 hg3))
     go_roundw
     case rel=>exact⟨k+1,_,_,by omega,by go_num,by congr 1,hown3,hb3,by simp;omega,by omega,HY⟩
     case measure=>simp[intOf];omega
  ·have hke:k=b.size:=by omega
   have hcv:=hown.string
   have HE:Hid (quoteS b.data.toList=o):=by
    show _=_
    unfold quoteS
    rw[HL.o,<-hke,HQ.o]
   clear hke
   go_wp2
   go_ret
   exact⟨AY (by rw[HE.o]),hb⟩
def jy(q:aa×Nat×Nat)(c:UInt8):Option (aa×Nat×Nat):=
 if q.2.2=2 then if iD c<0 then none else some (q.1,(iD c).toNat,1)
 else if q.2.2=1 then if iD c<0 then none else some (q.1++[UInt8.ofNat (q.2.1*16+(iD c).toNat)],q.2.1*16+(iD c).toNat,0)
 else if c=61 then some (q.1,0,2)
 else if aZ c||dN c then some (q.1++[c],q.2.1,0)
 else none
def kL(l:aa):Option (aa×Nat×Nat):=l.foldl (fun q c=>q.bind fun q=>jy q c) (some ([],0,0))
theorem Db(l:aa)(c:UInt8):kL (l++[c])=(kL l).bind fun q=>jy q c:=by
 unfold kL;rw[VQ];rfl
theorem Lf(a b:aa)(h:kL a=none):kL (a++b)=none:=by
 unfold kL at h ⊢
 rw[VQ,h]
 induction b with
 | nil=>rfl
 | cons c b ih=>exact ih
def bT(l:aa):Option (aa):=(kL l).bind fun q=>if q.2.2=0 then some q.1 else none
theorem vW(o:aa)(V:Nat)(c:UInt8):jy (o,V,2) c=if iD c<0 then none else some (o,(iD c).toNat,1):=rfl
theorem wY(o:aa)(V:Nat)(c:UInt8):jy (o,V,1) c=if iD c<0 then none else some (o++[UInt8.ofNat (V*16+(iD c).toNat)],V*16+(iD c).toNat,0):=rfl
theorem lT(o:aa)(V:Nat)(c:UInt8):jy (o,V,0) c=if c=61 then some (o,0,2) else if aZ c||dN c then some (o++[c],V,0) else none:=rfl
theorem Xz(c:UInt8):iD c<16:=by
 have:iD c<BQ.length\/iD c=-1:=yl BQ _
 have h:BQ.length=16:=rfl
 omega
theorem X0(i:Nat)(a b:Int)(ha:0<=a)(hb:0<=b)(hm:a % (2 ^ i:Nat)=0)(hb2:b<(2 ^ i:Nat))(h1:a+b<256):bits .or .u8 a b=a+b:=by
 obtain⟨m,rfl⟩:=Int.eq_ofNat_of_zero_le ha
 obtain⟨n,rfl⟩:=Int.eq_ofNat_of_zero_le hb
 have e:=nat_join i m n (by omega) (by omega)
 rw[u8_or_nat m n (by omega) (by omega),e]
 omega
theorem ZQ(c:UInt8)(h:c=61):((c.toNat:Int)==61)=true:=by subst h;rfl
theorem Di(l:aa)(k:Nat)(c:UInt8)(h:l[k]?=some c):l.take (k+1)=l.take k++[c]:=by
 obtain⟨h1,h2⟩:=List.getElem?_eq_some_iff.1 h
 rw[jg l k h1,h2]
theorem GQ(l:aa)(k:Nat)(c:UInt8)(hlt:l[k]?=some c){q:aa×Nat×Nat}(hJ:kL (l.take k)=some q)(h:jy q c=none):bT l=none:=by
 have h1:kL (l.take (k+1))=none:=by rw[Di l k c hlt,Db,hJ];exact h
 have h2:=Lf (l.take (k+1)) (l.drop (k+1)) h1
 rw[ZW]at h2
 unfold bT
 rw[h2];rfl
theorem Pk(l:aa)(k:Nat)(c:UInt8)(hlt:l[k]?=some c){q r:aa×Nat×Nat}(hJ:kL (l.take k)=some q)(h:jy q c=some r):kL (l.take (k+1))=some r:=by
 rw[Di l k c hlt,Db,hJ];exact h
theorem xU(s:ByteArray)(k:Nat)(h:k<s.size):s.data.toList[k]?=some s[k]:=by
 rw[GL (by rw[ae];exact h)];rfl
theorem qI(s:ByteArray)(w:World)(hl:s.size<=100000):
  Calls prog 113 #[.string s] w fun e w'=>∃v,e=.returned (.tuple #[v,.bool (bT s.data.toList).isSome])/\(∀o,bT s.data.toList=some o->Own w' w.heap.size v o)/\Below w.heap.size w w':=by
 go_enter func113,ntmps113
 go_wp2
 go_loopw [4,5,6,12] (fun v x d i wr=>∃(k V D:Nat) (o:aa),k<=s.size/\i=.int .i64 k/\x=.int .u8 V/\d=.int .i64 D/\Own wr w.heap.size v o/\Below w.heap.size w wr/\o.length<=k/\((D=2/\V=0)\/(D=1/\V<16)\/(D=0/\V<256))/\Hid (kL (s.data.toList.take k)=some (o,V,D))) (fun _ _ _ i _=>s.size - (intOf i).toNat)
 case atStart=>exact⟨0,0,0,[],ZY _,rfl,rfl,rfl,Own.nil _ _,Below.refl _ _,ZY _,by omega,rfl⟩
 case round=>
  obtain⟨k,V,D,o,hk,rfl,rfl,rfl,hown,hb,ho,hD,HJ⟩:=hrel
  have hsz:=hb.size
  by_cases hlt:k<s.size
  ·have hbyte:(s[k].toNat:Int)<256:=by have:=s[k].toNat_lt;omega
   have HK:Hid (s.data.toList[k]?=some s[k]):=xU s k hlt
   have hv2:=Xz s[k]
   rcases hD with⟨hD,hV⟩|⟨hD,hV⟩|⟨hD,hV⟩
   ·subst hD
    subst hV
    by_cases hv:iD s[k]<0
    ·have HN:Hid (bT s.data.toList=none):=GQ _ k _ HK.o HJ.o (by rw[vW,if_pos hv])
     go_wp2_with (first|(go_at_call 172;refine(uN s[k] _).mono ?_;rintro e w' ⟨rfl,rfl⟩))
     go_ret2
     refine⟨.slice none 0 0,?_,?_,hb⟩
     ·rw[HN.o];rfl
     ·intro q h;rw[HN.o]at h;cases h
    ·have hv1:0<=iD s[k]:=by omega
     have HE:Hid (kL (s.data.toList.take (k+1))=some (o,(iD s[k]).toNat,1)):=Pk _ k _ HK.o HJ.o (by rw[vW,if_neg hv])
     have o1:bits .or .u8 0 (iD s[k])=iD s[k]:=by simpa using X0 4 0 (iD s[k]) (by omega) (by omega) (by omega) (by simpa using hv2) (by omega)
     go_wp2_with (first|(go_at_call 172;refine(uN s[k] _).mono ?_;rintro e w' ⟨rfl,rfl⟩))
     go_roundw
     case rel=>exact⟨k+1,(iD s[k]).toNat,1,o,by omega,by go_num,by congr 1;omega,rfl,hown,hb,by omega,by omega,HE⟩
     case measure=>simp[intOf];omega
   ·subst hD
    by_cases hv:iD s[k]<0
    ·have HN:Hid (bT s.data.toList=none):=GQ _ k _ HK.o HJ.o (by rw[wY,if_pos hv])
     go_wp2_with (first|(go_at_call 172;refine(uN s[k] _).mono ?_;rintro e w' ⟨rfl,rfl⟩))
     go_ret2
     refine⟨.slice none 0 0,?_,?_,hb⟩
     ·rw[HN.o];rfl
     ·intro q h;rw[HN.o]at h;cases h
    ·have hv1:0<=iD s[k]:=by omega
     have HE:Hid (kL (s.data.toList.take (k+1))=some (o++[UInt8.ofNat (V*16+(iD s[k]).toNat)],V*16+(iD s[k]).toNat,0)):=Pk _ k _ HK.o HJ.o (by rw[wY,if_neg hv])
     have o1:bits .or .u8 ((V:Int)*16) (iD s[k])=(V:Int)*16+iD s[k]:=X0 4 _ (iD s[k]) (by omega) (by omega) (by omega) (by simpa using hv2) (by omega)
     have HU:Hid ((V:Int)*16+iD s[k]=((UInt8.ofNat (V*16+(iD s[k]).toNat)).toNat:Int)):=ow _ _ (by omega) (by omega)
     go_wp2_with (first|(go_at_call 172;refine(uN s[k] _).mono ?_;rintro e w' ⟨rfl,rfl⟩)|(at_builtin;refine kK _ w _ rfl (.tmp 34) (.tmp 36) rfl w.heap.size _ o rfl hown rfl _ HU.o (by omega) hsz hb ?_;intro v' w1 hown1 hb1))
     go_roundw
     case rel=>exact⟨k+1,V*16+(iD s[k]).toNat,0,_,by omega,by go_num,by congr 1;omega,rfl,hown1,hb1,by simp;omega,by omega,HE⟩
     case measure=>simp[intOf];omega
   ·subst hD
    by_cases h61:s[k]=61
    ·have HE:Hid (kL (s.data.toList.take (k+1))=some (o,0,2)):=Pk _ k _ HK.o HJ.o (by rw[lT,if_pos h61])
     have t1:=ZQ s[k] h61
     clear h61
     go_wp2_with fail
     go_roundw
     case rel=>exact⟨k+1,0,2,o,by omega,by go_num,rfl,rfl,hown,hb,by omega,by omega,HE⟩
     case measure=>simp[intOf];omega
    ·have t1:=Zd s[k] h61
     cases hq:(aZ s[k]||dN s[k])
     ·have HN:Hid (bT s.data.toList=none):=GQ _ k _ HK.o HJ.o (by rw[lT,if_neg h61,hq];rfl)
      have q1:aZ s[k]=false:=by cases hh:aZ s[k]<;>simp_all
      have q2:dN s[k]=false:=by cases hh:dN s[k]<;>simp_all
      clear hq h61
      go_wp2_with (first|(go_at_call 167;refine(bX _ _).mono ?_;rintro e w' ⟨rfl,rfl⟩)|(go_at_call 168;refine(je _ _).mono ?_;rintro e w' ⟨rfl,rfl⟩))
      go_ret2
      refine⟨.slice none 0 0,?_,?_,hb⟩
      ·rw[HN.o];rfl
      ·intro q h;rw[HN.o]at h;cases h
     ·have HE:Hid (kL (s.data.toList.take (k+1))=some (o++[s[k]],V,0)):=Pk _ k _ HK.o HJ.o (by rw[lT,if_neg h61,hq];rfl)
      cases q1:aZ s[k]
      ·have q2:dN s[k]=true:=by simpa[q1]using hq
       clear hq h61
       go_wp2_with (first|(go_at_call 167;refine(bX _ _).mono ?_;rintro e w' ⟨rfl,rfl⟩)|(go_at_call 168;refine(je _ _).mono ?_;rintro e w' ⟨rfl,rfl⟩)|(at_builtin;refine kK _ w _ rfl (.tmp 48) (.tmp 50) rfl w.heap.size _ o rfl hown rfl s[k] rfl (by omega) hsz hb ?_;intro v' w1 hown1 hb1))
       go_roundw
       case rel=>exact⟨k+1,V,0,_,by omega,by go_num,rfl,rfl,hown1,hb1,by simp;omega,by omega,HE⟩
       case measure=>simp[intOf];omega
      ·clear hq h61
       go_wp2_with (first|(go_at_call 167;refine(bX _ _).mono ?_;rintro e w' ⟨rfl,rfl⟩)|(go_at_call 168;refine(je _ _).mono ?_;rintro e w' ⟨rfl,rfl⟩)|(at_builtin;refine kK _ w _ rfl (.tmp 48) (.tmp 50) rfl w.heap.size _ o rfl hown rfl s[k] rfl (by omega) hsz hb ?_;intro v' w1 hown1 hb1))
       go_roundw
       case rel=>exact⟨k+1,V,0,_,by omega,by go_num,rfl,rfl,hown1,hb1,by simp;omega,by omega,HE⟩
       case measure=>simp[intOf];omega
  ·have HE:Hid (bT s.data.toList=if D=0 then some o else none):=by
    show _=_
    have hJ:=HJ.o
    rw[Ws (by rw[ae];omega)]at hJ
    unfold bT
    rw[hJ];rfl
   clear hD
   go_wp2
   go_ret2
   refine⟨u4,?_,?_,hb⟩
   ·rw[HE.o]
    by_cases h0:D=0
    ·subst h0;rfl
    ·have:((D:Int)==0)=false:=by rw[beq_eq_false_iff_ne];omega
     rw[this,if_neg h0];rfl
   ·intro q h
    rw[HE.o]at h
    split at h
    ·cases h;exact hown
    ·cases h
def Max(w:World):Prop:=0<w.heap.size/\∃m,w.cell? ⟨0,0,none⟩=some (.int .i64 m)
theorem Max.below{w w':World}{B:Nat}(h:Max w)(hb:Below B w w')(hB:0<B):Max w':=by
 obtain⟨h0,m,hm⟩:=h
 exact⟨Nat.lt_of_lt_of_le h0 hb.size,m,(hb.cell (p:=⟨0,0,none⟩) hB).trans hm⟩
theorem lQ(w:World)(n:Nat):Below w.heap.size w (w.drewN n):=by
 induction n with
 | zero=>exact Below.refl _ _
 | succ n ih=>exact ih.drew
theorem gm(l:aa):(ByteArray.mk l.toArray).size=l.length:=by simp[ByteArray.size]
theorem qL(s:ByteArray)(w:World)(hs:s.size<=100000)(hm:Max w):
  Calls prog 30 #[.string s,.string ⟨#[13,10]⟩] w fun e w'=>∃a b f,e=.returned (.tuple #[.string a,.string b,.bool f])/\Lib.cut s.data.toList [13,10]=(a.data.toList,b.data.toList,f)/\((f=true/\a.size+2+b.size=s.size)\/(f=false/\a.size=s.size/\b.size=0))/\Below w.heap.size w w':=by
 obtain⟨_,m,hm⟩:=hm
 refine(Tryz.strings_Cut s ⟨#[13,10]⟩ m w (by omega) hm).mono ?_
 rintro e w' ⟨rfl,n,rfl⟩
 have hsz:=ae s
 refine⟨_,_,_,rfl,rfl,?_,lQ _ _⟩
 rw[gm,gm]
 show((Lib.cut s.data.toList [13,10]).2.2=true/\(Lib.cut s.data.toList [13,10]).1.length+2+(Lib.cut s.data.toList [13,10]).2.1.length=s.size)\/((Lib.cut s.data.toList [13,10]).2.2=false/\(Lib.cut s.data.toList [13,10]).1.length=s.size/\(Lib.cut s.data.toList [13,10]).2.1.length=0)
 by_cases h0:0<=Lib.index s.data.toList [13,10]
 ·left
  have hr:=Lib.index_room s.data.toList [13,10] h0
  unfold Lib.cut
  rw[if_pos h0]
  refine⟨rfl,?_⟩
  show(s.data.toList.take _).length+2+(s.data.toList.drop _).length=_
  rw[ZX,List.length_drop]
  simp only[List.length_cons,List.length_nil]at hr ⊢
  omega
 ·right
  unfold Lib.cut
  rw[if_neg h0]
  exact⟨rfl,hsz,rfl⟩
theorem Sr(l c:aa):(Lib.trimRightS l c).length<=l.length:=by
 unfold Lib.trimRightS
 rw[List.length_reverse]
 have:=(List.dropWhile_sublist (fun x=>c.contains x) (l:=l.reverse)).length_le
 simpa using this
theorem Ul(s:ByteArray)(w:World)(hs:s.size<=100000):
  Calls prog 112 #[.string s,.string ⟨#[32,9]⟩] w fun e w'=>∃t,e=.returned (.string t)/\t.data.toList=Lib.trimRightS s.data.toList [32,9]/\t.size<=s.size/\Below w.heap.size w w':=by
 refine(Tryz.strings_TrimRight_laid s ⟨#[32,9]⟩ w (by omega) (by decide) ?_).mono ?_
 ·intro j b hj
  match j,hj with
  | 0,hj=>cases hj;decide
  | 1,hj=>cases hj;decide
  | j+2,hj=>simp at hj
 ·rintro e w' ⟨rfl,hb⟩
  refine⟨_,rfl,rfl,?_,hb⟩
  rw[gm,<-ae s]
  exact Sr _ _
theorem BA(l c:aa):(Lib.trimSuffix l c).length<=l.length:=by
 unfold Lib.trimSuffix
 split
 ·exact List.length_take_le' _ _
 ·exact Nat.le_refl _
theorem Ed(s:ByteArray)(w:World)(hs:s.size<=100000):
  Calls prog 111 #[.string s,.string ⟨#[61]⟩] w fun e w'=>∃t f,e=.returned (.tuple #[.string t,.bool f])/\t.data.toList=Lib.trimSuffix s.data.toList [61]/\f=Lib.hasSuffix s.data.toList [61]/\t.size<=s.size/\w'=w:=by
 refine(Tryz.strings_CutSuffix s ⟨#[61]⟩ w (by omega)).mono ?_
 rintro e w' ⟨rfl,rfl⟩
 refine⟨_,_,rfl,rfl,rfl,?_,rfl⟩
 rw[gm,<-ae s]
 exact BA _ _
def lineOf(a:aa):aa:=Lib.trimSuffix (Lib.trimRightS a [32,9]) [61]
def goesOn(a:aa):Bool:=Lib.hasSuffix (Lib.trimRightS a [32,9]) [61]
def uqLoop:Nat->aa->aa->Option (aa)
 | 0,_,_=>none
 | f+1,s,out=>
  (bT (lineOf (Lib.cut s [13,10]).1)).bind fun b=>
   if (Lib.cut s [13,10]).2.2 then uqLoop f (Lib.cut s [13,10]).2.1 (out++b++if goesOn (Lib.cut s [13,10]).1 then [] else [13,10]) else some (out++b)
def unquoteS(s:aa):Option (aa):=uqLoop (s.length+1) s []
theorem KH(f:Nat)(s out a b:aa)(m:Bool)(hc:Lib.cut s [13,10]=(a,b,m))(h:bT (lineOf a)=none):uqLoop (f+1) s out=none:=by
 unfold uqLoop;rw[hc];show(bT (lineOf a)).bind _=_;rw[h];rfl
theorem Co(f:Nat)(s out a b q:aa)(hc:Lib.cut s [13,10]=(a,b,false))(h:bT (lineOf a)=some q):uqLoop (f+1) s out=some (out++q):=by
 unfold uqLoop;rw[hc];show(bT (lineOf a)).bind _=_;rw[h];rfl
theorem Ga(f:Nat)(s out a b q:aa)(hc:Lib.cut s [13,10]=(a,b,true))(h:bT (lineOf a)=some q):uqLoop (f+1) s out=uqLoop f b (out++q++if goesOn a then [] else [13,10]):=by
 rw[uqLoop,hc];show(bT (lineOf a)).bind _=_;rw[h];rfl
section
variable {ops:Array Oper} {rest:List Oper} {o:Oper} {a:Act} {Q:Exit->Act->World->Prop}
theorem Gg(W w0:World)(hgd:o.guard=none)(s x:Operand)(ho:o.op=.call { callee:=.builtin .append,args:=#[s,x],argTypes:=#[32,32] })
  (B:Nat) (v:Value) (l:aa) (hs:a.eval s=v) (hown:Own W B v l) (B':Nat) (u:Value) (n:aa) (hx:a.eval x=u) (hu:Own W B' u n)
  (hl:l.length+n.length<=1000000000) (hB:B<=W.heap.size) (hb:Below B w0 W)
  (h:∀v' w',Own w' B v' (l++n)->Below B w0 w'->wpList prog ops Q rest (a.put o.dst v') w'):wpList prog ops Q (o::rest) a W:=by
 rcases hu.shape with⟨rfl,rfl⟩|⟨g,cap,rfl,_⟩
 ·obtain⟨i0,hi,hz0,hz1,hz2⟩:=info_parts Tryz.infoByte
  refine wpList_plain hgd fun K hK=>?_
  have hr:=run_append_owned_none (P:=prog) W B 32 o.type 5 i0 1 underlying32 hi v l.length (cs l) hown
  unfold Oper.wp execOp
  simp only[ho,resolve,invoke,builtin,Sem.run_bind,Sem.run_pure,Result.andThen_ok,List.map_toArray,List.map_cons,List.map_nil,hs,hx,hr]
  exact hK _ _ (h v W (by rw[List.append_nil];exact hown) hb)
 ·exact nK W w0 hgd s x ho B v l hs hown ⟨g,0,none⟩ n.length cap n hx rfl hu.cells hl hB hb fun v' w' h1 h2 _=>h v' w' h1 h2
end
theorem Lu{q r:aa×Nat×Nat}{c:UInt8}(h:jy q c=some r):r.1.length<=q.1.length+1:=by
 unfold jy at h
 split at h
 ·split at h
  ·cases h
  ·cases h;simp
 ·split at h
  ·split at h
   ·cases h
   ·cases h;simp
  ·split at h
   ·cases h;simp
   ·split at h
    ·cases h;simp
    ·cases h
theorem NJ(l:aa)(q r:aa×Nat×Nat)(h:l.foldl (fun q c=>q.bind fun q=>jy q c) (some q)=some r):r.1.length<=q.1.length+l.length:=by
 induction l generalizing q with
 | nil=>cases h;simp
 | cons c l ih=>
  rw[List.foldl_cons]at h
  cases hs:jy q c with
  | none=>
   have h':l.foldl (fun q c=>q.bind fun q=>jy q c) none=some r:=by rw[<-hs];exact h
   have:l.foldl (fun q c=>q.bind fun q=>jy q c) none=none:=by
    clear ih h h'
    induction l with
    | nil=>rfl
    | cons c l ih=>exact ih
   rw[this]at h'
   cases h'
  | some q'=>
   have h':l.foldl (fun q c=>q.bind fun q=>jy q c) (some q')=some r:=by rw[<-hs];exact h
   have h1:=ih q' h'
   have h2:=Lu hs
   simp
   omega
theorem unquotedS_len(l o:aa)(h:bT l=some o):o.length<=l.length:=by
 unfold bT at h
 cases hu:kL l with
 | none=>rw[hu]at h;cases h
 | some q=>
  rw[hu]at h
  have:q.1=o:=by
   simp only[Option.bind_some]at h
   split at h
   ·cases h;rfl
   ·cases h
  rw[<-this]
  simpa using NJ l ([],0,0) q hu
def qP:Value->Nat
 | .string s=>s.size
 | _=>0
def AR:Value->Nat
 | .bool true=>1
 | _=>0
theorem unquote_any(s:ByteArray)(w:World)(hl:s.size<=20000)(hm:Max w):
  Calls prog 60 #[.string s] w fun e w'=>e=.returned (unV (unquoteS s.data.toList))/\Below w.heap.size w w':=by
 have hw0:=hm.1
 go_enter func60,ntmps60
 go_wp2
 go_loopw [0,4,5] (fun x v m wr=>∃(t:ByteArray) (o:aa),x=.string t/\Own wr w.heap.size v o/\Below w.heap.size w wr/\((m=.bool true/\o.length+t.size<=s.size/\∃f,t.size<f/\Hid (uqLoop f t.data.toList o=unquoteS s.data.toList))\/(m=.bool false/\Hid (unquoteS s.data.toList=some o)))) (fun x _ m _=>qP x+AR m)
 case atStart=>exact⟨s,[],rfl,Own.nil _ _,Below.refl _ _,.inl ⟨rfl,by simp,s.size+1,by omega,by show _=_;unfold unquoteS;rw[ae]⟩⟩
 case round=>
  obtain⟨t,o,rfl,hown,hb,hM⟩:=hrel
  rcases hM with⟨rfl,hlen,f,hf,HT⟩|⟨rfl,HT⟩
  ·go_wp2_with fail
   refine(qL t _ (by omega) (hm.below hb hw0)).mono ?_
   rintro e w1 ⟨a,b,m,rfl,hcut,hsizes,hb1⟩
   have HC:=Hid.mk hcut
   clear hcut
   go_wp2_with fail
   refine(Ul a _ (by omega)).mono ?_
   rintro e w2 ⟨r,rfl,hr,hrs,hb2⟩
   have HR:=Hid.mk hr
   clear hr
   go_wp2_with fail
   refine(Ed r _ (by omega)).mono ?_
   rintro e w3 ⟨z,g,rfl,hz,hg,hzs,rfl⟩
   have HZ:=Hid.mk hz
   have HG:=Hid.mk hg
   clear hz hg
   go_wp2_with fail
   refine(qI z _ (by omega)).mono ?_
   rintro e w4 ⟨v4,rfl,ho4,hb4⟩
   have hb5:Below w.heap.size w w4:=hb.trans ((hb1.trans ((hb2.mono hb1.size).trans (hb4.mono (ZZ hb1.size hb2.size)))).mono hb.size)
   have hown5:Own w4 w.heap.size u4 o:=((hown.below hb1 af).below hb2 af).below hb4 af
   have hL:Hid (z.data.toList=lineOf a.data.toList):=by show _=_;rw[HZ.o,HR.o];rfl
   have hGo:Hid (g=goesOn a.data.toList):=by show _=_;rw[HG.o,HR.o];rfl
   have hzl:=ae z
   have HZL:=Hid.mk hzl
   clear hzl
   obtain⟨f',rfl⟩:∃f',f=f'+1:=⟨f - 1,by omega⟩
   cases hq:bT z.data.toList with
   | none=>
    have HN:Hid (unquoteS s.data.toList=none):=by
     show _=_
     rw[<-HT.o]
     exact KH _ _ _ _ _ _ HC.o (by rw[<-hL.o];exact hq)
    have HQ:=Hid.mk hq
    clear hq ho4 hsizes
    go_wp2
    go_ret2
    exact⟨by rw[HN.o];rfl,hb5⟩
   | some q=>
    have hoq:=ho4 q hq
    have hql:=unquotedS_len _ _ hq
    rw[HZL.o]at hql
    have HQ:=Hid.mk hq
    clear hq ho4
    rcases hsizes with⟨rfl,hs1⟩|⟨rfl,hs1,hs2⟩
    ·have HE:Hid (uqLoop f' b.data.toList (o++q++if goesOn a.data.toList then [] else [13,10])=unquoteS s.data.toList):=by
      show _=_
      rw[<-HT.o]
      exact(Ga _ _ _ _ _ _ HC.o (by rw[<-hL.o];exact HQ.o)).symm
     cases g
     ·have HE':Hid (uqLoop f' b.data.toList (o++q++[13,10])=unquoteS s.data.toList):=by
       show _=_
       rw[<-HE.o,<-hGo.o];rfl
      go_wp2_with (first|(at_builtin;refine Gg _ w rfl (.tmp 31) (.tmp 32) rfl w.heap.size _ o rfl hown5 _ _ q rfl hoq (by omega) hb5.size hb5 ?_;intro v6 w6 hown6 hb6)|(at_builtin;refine ol _ w rfl (.tmp 39) _ rfl w.heap.size _ _ rfl hown6 ⟨#[13,10]⟩ rfl (by simp[ByteArray.size];omega) hb6.size hb6 ?_;intro v7 w7 hown7 hb7))
      go_roundw
      case rel=>exact⟨b,_,rfl,hown7,hb7,.inl ⟨rfl,by simp;omega,f',by omega,HE'⟩⟩
      case measure=>simp[qP,AR];omega
     ·have HE':Hid (uqLoop f' b.data.toList (o++q)=unquoteS s.data.toList):=by
       show _=_
       rw[<-HE.o,<-hGo.o];simp
      go_wp2_with (first|(at_builtin;refine Gg _ w rfl (.tmp 31) (.tmp 32) rfl w.heap.size _ o rfl hown5 _ _ q rfl hoq (by omega) hb5.size hb5 ?_;intro v6 w6 hown6 hb6))
      go_roundw
      case rel=>exact⟨b,_,rfl,hown6,hb6,.inl ⟨rfl,by simp;omega,f',by omega,HE'⟩⟩
      case measure=>simp[qP,AR];omega
    ·have HE:Hid (unquoteS s.data.toList=some (o++q)):=by
      show _=_
      rw[<-HT.o]
      exact Co _ _ _ _ _ _ HC.o (by rw[<-hL.o];exact HQ.o)
     go_wp2_with (first|(at_builtin;refine Gg _ w rfl (.tmp 31) (.tmp 32) rfl w.heap.size _ o rfl hown5 _ _ q rfl hoq (by omega) hb5.size hb5 ?_;intro v6 w6 hown6 hb6))
     go_roundw
     case rel=>exact⟨b,_,rfl,hown6,hb6,.inr ⟨rfl,HE⟩⟩
     case measure=>simp[qP,AR];omega
  ·have hcv:=hown.string
   go_wp2
   go_ret2
   exact⟨by rw[HT.o];rfl,hb⟩
def sP(c:UInt8):Prop:=(32<=c.toNat/\c.toNat<=126)\/c=9
end Go.Proofs.YtkldkhdigkpniaaGreatDoor.Tx
