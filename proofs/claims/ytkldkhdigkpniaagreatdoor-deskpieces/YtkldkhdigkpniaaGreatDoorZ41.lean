import Derived.Test.YtkldkhdigkpniaaGreatDoorZ27
import Derived.Test.YtkldkhdigkpniaaGreatDoorZ37
set_option maxHeartbeats 4000000
set_option maxRecDepth 100000
open Nat renaming zero_add → GL
namespace Go.Proofs.YtkldkhdigkpniaaGreatDoor
open Go.RowKit Go.Proofs.Tryz
theorem Ms(A1 A2:Option Addr)(n1 c1 n2 c2:Nat)(s:ByteArray)(m:Bool)(w:World):
  Calls prog 99 #[.agg #[.slice A1 n1 c1,.string s,.bool m,.slice A2 n2 c2]] w fun e w'=>e=.returned (.bool m)/\Below w.heap.size w w':=by
 have hb0:Below w.heap.size w (w.alloc (.cells #[.slice A1 n1 c1,.string s,.bool m,.slice A2 n2 c2] 92)):=ag.alloc af _
 go_enter func99,ntmps99
 go_wp2
 go_ret
 exact⟨rfl,hb0⟩
def YN(w:World)(A:Option Addr)(bs:List Bool):Prop:=∀k (hk:k<bs.length),∃g off A1 n1 c1 s A2 n2 c2,A=some ⟨g,off,none⟩/\w.cell? ⟨g,off+k*4,none⟩=some (.slice A1 n1 c1)/\w.cell? ⟨g,off+k*4+1,none⟩=some (.string s)/\w.cell? ⟨g,off+k*4+2,none⟩=some (.bool bs[k])/\w.cell? ⟨g,off+k*4+3,none⟩=some (.slice A2 n2 c2)
theorem V5(A:Option Addr)(cap:Nat)(bs:List Bool)(w:World)(hX:YN w A bs)(hlen:bs.length<=10000000):
  Calls prog 164 #[.slice A bs.length cap,.func (.func 99) #[] #[]] w fun e w'=>e=.returned (jB (bs.findIdx? id))/\Below w.heap.size w w':=by
 obtain⟨R,HR⟩:∃R,Box (bs.findIdx? id=R):=⟨_,⟨rfl⟩⟩
 rw[HR.o]
 have HX:=Box.m hX
 clear hX
 go_enter func164,ntmps164
 go_wp2
 go_loopg [8] bs.length (fun gf i wx=>∃k:Nat,k<=bs.length/\i=.int .i64 k/\Below w.heap.size w wx/\Box (∀j (hj:j<bs.length),j<k->bs[j]=false)/\bs.length - k<=gf)
 case atStart=>exact⟨0,Nat.zero_le _,rfl,Below.refl _ _,⟨fun j _ h=>absurd h (by omega)⟩,by omega⟩
 case round=>
  obtain⟨k,hk,rfl,hb,HA,hgf⟩:=hrel
  by_cases hlt:k<bs.length
  ·obtain⟨g,off,A1,n1,c1,s,A2,n2,c2,e1,x0,x1,x2,x3⟩:=HX.o k hlt
   subst e1
   have key:∀(i:Nat) (v:Value),w.cell? ⟨g,i,none⟩=some v->wr.cell? ⟨g,i,none⟩=some v:=fun i v hv=>(hb.cell (p:=⟨g,i,none⟩) (World.block_lt_of_cell? w _ hv)).trans hv
   have y0:=key _ _ x0
   have y1:=key _ _ x1
   have y2:=key _ _ x2
   have y3:=key _ _ x3
   have HLT:=Box.m hlt
   clear key x0 x1 x2 x3
   have HCL:=Box.m (Ms A1 A2 n1 c1 n2 c2 s bs[k] wr)
   cases hq:bs[k]
   ·have HA':Box (∀j (hj:j<bs.length),j<k+1->bs[j]=false):=⟨fun j hj hjk=>by
     by_cases h:j=k
     ·subst h;exact hq
     ·exact HA.o j hj (by omega)⟩
    rw[hq]at HCL y2
    clear HA hq
    go_wp2_with fail
    refine HCL.o.mono ?_
    rintro e w1 ⟨rfl,hb1⟩
    clear HCL
    go_wp2
    go_roundg (bs.length - (k+1))
    case measure=>have:=HLT.o;omega
    case rel=>exact⟨k+1,HLT.o,by go_num,hb.trans (hb1.mono hb.size),HA',by have:=HLT.o;omega⟩
   ·have HE:Box (R=some k):=⟨by
     rw[<-HR.o]
     exact nN id bs k hlt hq (fun j hj=>HA.o j (by omega) hj)⟩
    rw[hq]at HCL y2
    clear HA hq
    go_wp2_with fail
    refine HCL.o.mono ?_
    rintro e w1 ⟨rfl,hb1⟩
    clear HCL
    go_wp2
    go_ret
    exact⟨by rw[HE.o];rfl,hb.trans (hb1.mono hb.size)⟩
  ·have HE:Box (R=none):=⟨by
    rw[<-HR.o,List.findIdx?_eq_none_iff]
    intro q hq
    obtain⟨j,hj,rfl⟩:=List.mem_iff_getElem.1 hq
    exact HA.o j hj (by omega)⟩
   clear HX HA
   go_wp2
   go_ret
   exact⟨by rw[HE.o];rfl,hb⟩
theorem WZ(A:Option Addr)(cap:Nat)(bs:List Bool)(w:World)(hX:YN w A bs)(hlen:bs.length<=10000000):
  Calls prog 98 #[.slice A bs.length cap,.func (.func 99) #[] #[]] w fun e w'=>e=.returned (.bool (bs.any id))/\Below w.heap.size w w':=by
 have HI:=Box.m (V5 A cap bs w hX hlen)
 obtain⟨R,HR⟩:∃R,Box (bs.findIdx? id=R):=⟨_,⟨rfl⟩⟩
 have HA:Box (bs.any id=R.isSome):=⟨by rw[<-HR.o,List.findIdx?_isSome]⟩
 rw[HA.o]
 rw[HR.o]at HI
 clear hX HR HA
 go_enter func98,ntmps98
 go_wp2_with fail
 refine HI.o.mono ?_
 rintro e w1 ⟨rfl,hb1⟩
 clear HI
 cases R with
 | none=>
  simp only[jB]
  go_wp2
  go_ret
  exact⟨rfl,hb1⟩
 | some i=>
  have k0:(0:Int)<=(i:Int):=by omega
  simp only[jB]
  go_wp2
  go_ret
  exact⟨rfl,hb1⟩
end Go.Proofs.YtkldkhdigkpniaaGreatDoor
namespace Go.Proofs.YtkldkhdigkpniaaGreatDoor
open Go.RowKit Go.Proofs.Px Go.Proofs.Tryz
def BJ(p:XP):List Value:=[p.hd,.string p.bd,.string p.id,.string p.loc.sc,.bool p.loc.hA,.string p.loc.au,.string p.loc.pa,.bool p.loc.hQ,.string p.loc.qu,.bool p.loc.hF,.string p.loc.fr]
def jA(ps:List XP):List Value:=ps.flatMap BJ
theorem Eo(L M:List XP):jA (L++M)=jA L++jA M:=by simp[jA]
theorem Nw(L:List XP)(k:Nat)(hk:k<L.length)(j:Nat)(hj:j<11):(jA L)[k*11+j]?=(BJ L[k])[j]?:=by
 induction L generalizing k with
 | nil=>exact absurd hk (by simp)
 | cons f L ih=>
  have e:jA (f::L)=BJ f++jA L:=rfl
  have hl:(BJ f).length=11:=rfl
  cases k with
  | zero=>
   rw[e,List.getElem?_append_left (by rw[hl];omega),Nat.zero_mul,GL]
   rfl
  | succ k=>
   rw[e,List.getElem?_append_right (by rw[hl];omega),hl]
   have:=ih k (by simpa using hk)
   rw[show(k+1)*11+j - 11=k*11+j by omega,this]
   rfl
def kX(w:World)(B:Nat)(v:Value)(L:List XP):Prop:=w.ownsRow B 104 11 v L.length (jA L)
theorem Tryz.infoPiece:(prog.info? 104).map (fun i=>(i.zero,i.size,i.bytes))=some (some (.agg #[.slice none 0 0,.string ⟨#[]⟩,.string ⟨#[]⟩,.string ⟨#[]⟩,.bool false,.string ⟨#[]⟩,.string ⟨#[]⟩,.bool false,.string ⟨#[]⟩,.bool false,.string ⟨#[]⟩]),11,160):=by kernel_rfl
theorem kX.nil(w:World)(B:Nat):kX w B (.slice none 0 0) []:=World.ownsRow_nil _ _ _ _
theorem kX.below{w w':World}{B C:Nat}{v:Value}{L:List XP}(h:kX w B v L)(hb:Below C w w')(hC:w.heap.size<=C):kX w' B v L:=by
 obtain⟨h1,h2⟩:=h
 refine⟨h1,?_⟩
 rcases h2 with h2|⟨g,cap,cur,a,b,c,d⟩
 ·exact .inl h2
 ·refine .inr ⟨g,cap,cur,a,b,?_,d⟩
  rw[hb.block g ?_]
  ·exact c
  ·have:=(Array.getElem?_eq_some_iff.1 c).1
   omega
theorem kX.shape{w:World}{B:Nat}{v:Value}{L:List XP}(h:kX w B v L):
  (v=.slice none 0 0/\L=[])\/∃g cap,v=.slice (some ⟨g,0,none⟩) L.length cap/\B<=g/\g<w.heap.size/\L.length<=cap:=by
 rcases h.2 with⟨a,b⟩|⟨g,cap,cur,a,b,c,d,e,_⟩
 ·exact .inl ⟨a,List.eq_nil_of_length_eq_zero b⟩
 ·exact .inr ⟨g,cap,a,b,(Array.getElem?_eq_some_iff.1 c).1,d⟩
theorem kX.xc{w:World}{B g cap:Nat}{L:List XP}(h:kX w B (.slice (some ⟨g,0,none⟩) L.length cap) L)(k:Nat)(hk:k<L.length):XC w g (0+k*11) L[k]:=by
 have h':w.ownsRow B 104 11 (.slice (some ⟨g,0,none⟩) L.length cap) L.length (jA L):=h
 have key:∀j,j<11->w.cell? ⟨g,k*11+j,none⟩=(BJ L[k])[j]?:=fun j hj=>(World.ownsRow.cellAt h' (k*11+j) (by omega)).trans (Nw L k hk j hj)
 rw[GL]
 exact⟨key 0 (by decide),key 1 (by decide),key 2 (by decide),key 3 (by decide),key 4 (by decide),key 5 (by decide),key 6 (by decide),key 7 (by decide),key 8 (by decide),key 9 (by decide),key 10 (by decide)⟩
theorem Rj{ops:Array Oper}{o:Oper}{a:Act}{K:Act->World->Prop}{Q:Exit->Act->World->Prop}{E:Prop}(W:World)(hgd:o.guard=none)(s x:Operand)(ho:o.op=.call { callee:=.builtin .append,args:=#[s,x],argTypes:=#[105,105] })
  (B:Nat) (v:Value) (L:List XP) (hs:a.eval s=v) (hown:kX W B v L) (b c:Nat) (p:XP) (hx:a.eval x=.slice (some ⟨b,0,none⟩) 1 c) (h0:XC W b 0 p) (hc:p.hd.oneCell'=true) (hl:L.length+1<=1000000) (hB:B<=W.heap.size)
  (h:∀v' w',kX w' B v' (L++[p])->W.grownBy w' v.ownBlock->(v'.ownBlock=v.ownBlock\/v'.ownBlock=some W.heap.size)->K (a.put o.dst v') w'):if Region.wanted o (yielded ops a.tmps)=true then Oper.wp prog o a W K Q else E:=by
 have hw:Region.wanted o (yielded ops a.tmps)=true:=by simp[Region.wanted,hgd]
 rw[if_pos hw]
 obtain⟨i0,hi,hz0,hz1,hz2⟩:=info_parts Tryz.infoPiece
 have hne:∀j u,(jA [p])[j]?=some u->W.cell? ((⟨b,0,none⟩:Addr).add j)=some u:=by
  intro j u hj
  have hjl:j<11:=(List.getElem?_eq_some_iff.1 hj).1
  rw[Addr.add_lit,GL]
  obtain⟨c0,c1,c2,c3,c4,c5,c6,c7,c8,c9,ca⟩:=h0
  simp only[GL]at c0 c1 c2 c3 c4 c5 c6 c7 c8 c9 ca
  match j,hjl,hj with
  | 0,_,hj=>rw[c0];exact hj
  | 1,_,hj=>rw[c1];exact hj
  | 2,_,hj=>rw[c2];exact hj
  | 3,_,hj=>rw[c3];exact hj
  | 4,_,hj=>rw[c4];exact hj
  | 5,_,hj=>rw[c5];exact hj
  | 6,_,hj=>rw[c6];exact hj
  | 7,_,hj=>rw[c7];exact hj
  | 8,_,hj=>rw[c8];exact hj
  | 9,_,hj=>rw[c9];exact hj
  | 10,_,hj=>rw[ca];exact hj
 have hone:∀u∈jA [p],u.oneCell'=true:=by
  intro u hu
  have:u∈BJ p:=by simpa[jA]using hu
  unfold BJ at this
  rcases List.mem_cons.1 this with rfl|this
  ·exact hc
  ·simp only[List.mem_cons,List.not_mem_nil,or_false]at this
   rcases this with rfl|rfl|rfl|rfl|rfl|rfl|rfl|rfl|rfl|rfl<;>rfl
 obtain⟨v',w',hr,k2,k3,_⟩:=run_append_own (P:=prog) W B 105 o.type 104 i0 _ 11 160 underlying105 hi hz0 hz1 hz2 rfl (by decide) v L.length (jA L) hown ⟨b,0,none⟩ 1 c (jA [p]) rfl hne hone (by unfold maxLen;omega) (by omega) hB
 have hblk:=vF W B 105 o.type 104 i0 _ 11 160 underlying105 hi hz0 hz1 hz2 v L.length (jA L) hown ⟨b,0,none⟩ 1 c (jA [p]) rfl hne hone (by decide) (by unfold maxLen;omega) (by omega) v' w' hr
 unfold Oper.wp execOp
 simp only[ho,resolve,invoke,builtin,Sem.run_bind,Sem.run_pure,Result.andThen_ok,List.map_toArray,List.map_cons,List.map_nil,hs,hx,hr]
 refine h v' w' ?_ k3 hblk
 unfold kX
 rw[List.length_append,Eo]
 exact k2
end Go.Proofs.YtkldkhdigkpniaaGreatDoor
