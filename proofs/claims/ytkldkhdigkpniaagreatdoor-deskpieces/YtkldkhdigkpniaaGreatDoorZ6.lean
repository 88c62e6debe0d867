import Derived.Test.YtkldkhdigkpniaaGreatDoorZ5
import Derived.Test.YtkldkhdigkpniaaGreatDoorZ1
import Derived.Deep.RegionLaw
import Derived.Lib.IndexMore
import Derived.Lib.Join
set_option maxHeartbeats 1600000
set_option maxRecDepth 100000
open List renaming length_pos_iff → GL, flatten_cons → VQ, length_append → Ws, eq_nil_of_length_eq_zero → Xu, length_cons → ZV, mem_cons_self → ZW, mem_cons_of_mem → ZX
namespace Go.Proofs.YtkldkhdigkpniaaGreatDoor
open Go.RowKit Go.Proofs.Tryz
def Max(w:World):Prop:=0<w.heap.size/\∃m,w.cell? ⟨0,0,none⟩=some (.int .i64 m)
theorem Max.below{w w':World}{B:Nat}(h:Max w)(hb:Below B w w')(hB:0<B):Max w':=by
 obtain⟨h0,m,hm⟩:=h
 exact⟨Nat.lt_of_lt_of_le h0 hb.size,m,(hb.cell (p:=⟨0,0,none⟩) hB).trans hm⟩
theorem lQ(w:World)(n:Nat):Below w.heap.size w (w.drewN n):=by
 induction n with
 | zero=>exact Below.refl _ _
 | succ n ih=>exact ih.drew
theorem gm(l:aa):(ByteArray.mk l.toArray).size=l.length:=by simp[ByteArray.size]
theorem jX(l sep:aa):((Lib.cut l sep).2.2=true/\(Lib.cut l sep).1.length+sep.length+(Lib.cut l sep).2.1.length=l.length)\/((Lib.cut l sep).2.2=false/\(Lib.cut l sep).1=l/\(Lib.cut l sep).2.1=[]):=by
 by_cases h0:0<=Lib.index l sep
 ·left
  have hr:=Lib.index_room l sep h0
  unfold Lib.cut
  rw[if_pos h0]
  refine⟨rfl,?_⟩
  show(l.take _).length+sep.length+(l.drop _).length=_
  rw[List.length_take,List.length_drop]
  omega
 ·right
  unfold Lib.cut
  rw[if_neg h0]
  exact⟨rfl,rfl,rfl⟩
theorem qL(s sep:ByteArray)(w:World)(hs:s.size<=100000)(hm:Max w):
  Calls prog 30 #[.string s,.string sep] w fun e w'=>∃a b f,e=.returned (.tuple #[.string a,.string b,.bool f])/\Lib.cut s.data.toList sep.data.toList=(a.data.toList,b.data.toList,f)/\a.size<=s.size/\b.size<=s.size/\Below w.heap.size w w':=by
 obtain⟨_,m,hm⟩:=hm
 refine(Tryz.strings_Cut s sep m w (by omega) hm).mono ?_
 rintro e w' ⟨rfl,n,rfl⟩
 have hsz:=ae s
 refine⟨_,_,_,rfl,rfl,?_,?_,lQ _ _⟩
 ·rw[gm]
  rcases jX s.data.toList sep.data.toList with⟨_,h⟩|⟨_,h,_⟩
  ·omega
  ·rw[h];omega
 ·rw[gm]
  rcases jX s.data.toList sep.data.toList with⟨_,h⟩|⟨_,_,h⟩
  ·omega
  ·rw[h];simp
theorem uT(l:aa)(c:UInt8):Lib.index l [c]=Lib.indexByte l c:=by
 induction l with
 | nil=>rfl
 | cons b l ih=>
  have e:(List.isPrefixOf [c] (b::l))=(c==b):=by simp[List.isPrefixOf]
  rw[Lib.index,Lib.indexByte,ih,e]
  have:(c==b)=(b==c):=by rw[Bool.eq_iff_iff,beq_iff_eq,beq_iff_eq];exact eq_comm
  rw[this]
theorem Na(xs:List (aa)):Lib.join xs []=xs.flatten:=by
 cases xs with
 | nil=>rfl
 | cons x xs=>
  rw[Lib.join_cons,VQ]
  congr 1
  unfold Lib.joinTail
  simp
theorem Cb(c:UInt8)(l:aa):oQ (c::l)=if oQ l=[]/\blk c=true then [] else c::oQ l:=by
 unfold oQ
 rw[List.reverse_cons,List.dropWhile_append]
 by_cases h:l.reverse.dropWhile blk=[]
 ·rw[h]
  simp only[List.isEmpty_nil,if_true,List.reverse_nil,true_and]
  by_cases hc:blk c=true
  ·simp[hc]
  ·simp[hc]
 ·have h1:(l.reverse.dropWhile blk).isEmpty=false:=by
   cases hh:l.reverse.dropWhile blk with
   | nil=>exact absurd hh h
   | cons _ _=>rfl
  rw[h1]
  simp[h]
theorem Rk(l:aa):aW (oQ l)=oQ (aW l):=by
 induction l with
 | nil=>rfl
 | cons c l ih=>
  rw[Cb]
  by_cases hc:blk c=true
  ·have e:aW (c::l)=aW l:=by simp[aW,hc]
   rw[e,<-ih]
   by_cases h:oQ l=[]
   ·rw[if_pos ⟨h,hc⟩,h]
   ·rw[if_neg (fun x=>h x.1)]
    simp[aW,hc]
  ·have e:aW (c::l)=c::l:=by simp[aW,hc]
   rw[e,Cb,if_neg (fun x=>hc x.2)]
   simp[aW,hc]
theorem xR:(fun c:UInt8=>[32,9].contains c)=blk:=by
 funext c
 have key:∀n:Fin 256,[32,9].contains (UInt8.ofNat n.val)=blk (UInt8.ofNat n.val):=by decide +kernel
 have:=key ⟨c.toNat,c.toNat_lt⟩
 simpa using this
theorem Vg(l:aa):Lib.trimS l [32,9]=trimS l:=by
 unfold Lib.trimS Lib.trimLeftS Lib.trimRightS
 rw[xR]
 exact Rk l
theorem pK(l:aa):(trimS l).length<=l.length:=Nat.le_trans (yS _) (dB _)
theorem yQ(s:ByteArray)(w:World)(hs:s.size<=1000000):
  Calls prog 84 #[.string s,.string ⟨#[32,9]⟩] w fun e w'=>∃t,e=.returned (.string t)/\t.data.toList=trimS s.data.toList/\Below w.heap.size w w':=by
 refine(Tryz.strings_Trim_laid s ⟨#[32,9]⟩ w (by omega) (by decide) ?_).mono ?_
 ·intro j b hj
  match j,hj with
  | 0,hj=>cases hj;decide
  | 1,hj=>cases hj;decide
  | j+2,hj=>simp at hj
 ·rintro e w' ⟨rfl,hb⟩
  exact⟨_,rfl,Vg _,hb⟩
theorem lw(L:List Fl):(aX L).length=L.length*2:=by
 induction L with
 | nil=>rfl
 | cons f L ih=>
  have:aX (f::L)=[Value.string f.1,Value.string f.2]++aX L:=rfl
  rw[this,Ws,ih,ZV];simp;omega
theorem pE(L M:List Fl):aX (L++M)=aX L++aX M:=by simp[aX]
theorem wG(L:List Fl)(k:Nat)(hk:k<L.length):(aX L)[k*2]?=some (.string L[k].1)/\(aX L)[k*2+1]?=some (.string L[k].2):=by
 induction L generalizing k with
 | nil=>exact absurd hk (by simp)
 | cons f L ih=>
  have e:aX (f::L)=Value.string f.1::Value.string f.2::aX L:=rfl
  cases k with
  | zero=>rw[e];exact⟨rfl,rfl⟩
  | succ k=>
   have:=ih k (by simpa using hk)
   have e1:(k+1)*2=k*2+1+1:=by omega
   rw[e,e1]
   exact this
theorem qN(L:List Fl)(k:Nat)(hk:k<L.length)(x:ByteArray):(aX L).set (k*2+1) (.string x)=aX (L.set k (L[k].1,x)):=by
 induction L generalizing k with
 | nil=>exact absurd hk (by simp)
 | cons f L ih=>
  have e:aX (f::L)=Value.string f.1::Value.string f.2::aX L:=rfl
  cases k with
  | zero=>rfl
  | succ k=>
   have h1:=ih k (by simpa using hk)
   have e1:(k+1)*2+1=k*2+1+1+1:=by omega
   rw[e,e1]
   show Value.string f.1::Value.string f.2::(aX L).set (k*2+1) (.string x)=_
   rw[h1];rfl
def bJ(w:World)(B:Nat)(v:Value)(L:List Fl):Prop:=w.ownsRow B 147 2 v L.length (aX L)
theorem Tryz.infoFld:(prog.info? 147).map (fun i=>(i.zero,i.size,i.bytes))=some (some (.agg #[.string ⟨#[]⟩,.string ⟨#[]⟩]),2,32):=by kernel_rfl
theorem bJ.nil(w:World)(B:Nat):bJ w B (.slice none 0 0) []:=World.ownsRow_nil _ _ _ _
theorem bJ.below{w w':World}{B C:Nat}{v:Value}{L:List Fl}(h:bJ w B v L)(hb:Below C w w')(hC:w.heap.size<=C):bJ w' B v L:=by
 obtain⟨h1,h2⟩:=h
 refine⟨h1,?_⟩
 rcases h2 with h2|⟨g,cap,cur,a,b,c,d⟩
 ·exact .inl h2
 ·refine .inr ⟨g,cap,cur,a,b,?_,d⟩
  rw[hb.block g ?_]
  ·exact c
  ·have:=(Array.getElem?_eq_some_iff.1 c).1
   omega
theorem bJ.shape{w:World}{B:Nat}{v:Value}{L:List Fl}(h:bJ w B v L):
  (v=.slice none 0 0/\L=[])\/∃g cap,v=.slice (some ⟨g,0,none⟩) L.length cap/\B<=g/\g<w.heap.size/\L.length<=cap:=by
 rcases h.2 with⟨a,b⟩|⟨g,cap,cur,a,b,c,d,e,_⟩
 ·exact .inl ⟨a,Xu b⟩
 ·exact .inr ⟨g,cap,a,b,(Array.getElem?_eq_some_iff.1 c).1,d⟩
theorem bJ.cell{w:World}{B g cap n:Nat}{L:List Fl}(h:bJ w B (.slice (some ⟨g,0,none⟩) n cap) L)(k:Nat)(hk:k<L.length):w.cell? ⟨g,k*2,none⟩=some (.string L[k].1)/\w.cell? ⟨g,k*2+1,none⟩=some (.string L[k].2)/\w.frozen? ⟨g,k*2+1,none⟩=false:=by
 have hn:n=L.length:=by
  rcases h.2 with⟨a,_⟩|⟨g',cap',cur,a,_⟩
  ·cases a
  ·simp only[Value.slice.injEq]at a;exact a.2.1
 subst hn
 have h':w.ownsRow B 147 2 (.slice (some ⟨g,0,none⟩) L.length cap) L.length (aX L):=h
 have hg:=wG L k hk
 exact⟨(World.ownsRow.cellAt h' (k*2) (by omega)).trans hg.1,(World.ownsRow.cellAt h' (k*2+1) (by omega)).trans hg.2,World.ownsRow.frozenAt h' _⟩
theorem bJ.fl{w:World}{B:Nat}{v:Value}{L:List Fl}(h:bJ w B v L):FL w v L:=by
 rcases h.shape with⟨rfl,rfl⟩|⟨g,cap,rfl,_,_,hc⟩
 ·exact FL.nil w
 ·refine⟨_,_,rfl,hc,fun k hk=>⟨g,0,rfl,?_,?_⟩⟩
  ·rw[Nat.zero_add];exact(h.cell k hk).1
  ·rw[Nat.zero_add];exact(h.cell k hk).2.1
theorem bJ.set{w:World}{B g cap:Nat}{L:List Fl}(h:bJ w B (.slice (some ⟨g,0,none⟩) L.length cap) L)(k:Nat)(hk:k<L.length)(x:ByteArray):bJ (w.setCell ⟨g,k*2+1,none⟩ (.string x)) B (.slice (some ⟨g,0,none⟩) L.length cap) (L.set k (L[k].1,x)):=by
 have h':w.ownsRow B 147 2 (.slice (some ⟨g,0,none⟩) L.length cap) L.length (aX L):=h
 have:=(World.ownsRow.stored h' (k*2+1) (.string x)).1
 rw[qN L k hk x]at this
 unfold bJ
 rw[List.length_set]
 exact this
theorem IL{o:Oper}{a:Act}{K:Act->World->Prop}{Q:Exit->Act->World->Prop}(W w0:World)(s x:Operand)(ho:o.op=.call { callee:=.builtin .append,args:=#[s,x],argTypes:=#[90,90] })
  (B:Nat) (v:Value) (L:List Fl) (hs:a.eval s=v) (hown:bJ W B v L) (b c:Nat) (f:Fl) (hx:a.eval x=.slice (some ⟨b,0,none⟩) 1 c) (h0:W.cell? ⟨b,0,none⟩=some (.string f.1)) (h1:W.cell? ⟨b,1,none⟩=some (.string f.2)) (hl:L.length+1<=1000000) (hB:B<=W.heap.size) (hb:Below B w0 W)
  (h:∀v' w',bJ w' B v' (L++[f])->Below B w0 w'->K (a.put o.dst v') w'):o.wp prog a W K Q:=by
 obtain⟨i0,hi,hz0,hz1,hz2⟩:=info_parts Tryz.infoFld
 refine wp_append_own W s x 90 ho B 147 i0 (.agg #[.string ⟨#[]⟩,.string ⟨#[]⟩]) 2 32 underlying90 hi hz0 hz1 hz2 rfl (by decide) v L.length (aX L) hs hown ⟨b,0,none⟩ 1 c (aX [f]) hx rfl ?_ ?_ (by unfold maxLen;omega) (by omega) hB ?_
 ·intro j u hj
  have hjl:j<2:=(List.getElem?_eq_some_iff.1 hj).1
  rw[Addr.add_lit,Nat.zero_add]
  match j,hjl,hj with
  | 0,_,hj=>rw[h0];exact hj
  | 1,_,hj=>rw[h1];exact hj
 ·intro u hu
  have:u=.string f.1\/u=.string f.2:=by simpa[aX]using hu
  rcases this with rfl|rfl<;>rfl
 ·intro v' w' h2 h3 _
  refine h v' w' ?_ (hb.grown h3 hB (fun k hk=>(hown.lt k hk).1))
  unfold bJ
  rw[Ws,pE]
  exact h2
theorem GU{ops:Array Oper}{rest:List Oper}{o:Oper}{a:Act}{Q:Exit->Act->World->Prop}(W w0:World)(hgd:o.guard=none)(s x:Operand)(ho:o.op=.call { callee:=.builtin .append,args:=#[s,x],argTypes:=#[90,90] })
  (B:Nat) (v:Value) (L:List Fl) (hs:a.eval s=v) (hown:bJ W B v L) (b c:Nat) (f:Fl) (hx:a.eval x=.slice (some ⟨b,0,none⟩) 1 c) (h0:W.cell? ⟨b,0,none⟩=some (.string f.1)) (h1:W.cell? ⟨b,1,none⟩=some (.string f.2)) (hl:L.length+1<=1000000) (hB:B<=W.heap.size) (hb:Below B w0 W)
  (h:∀v' w',bJ w' B v' (L++[f])->Below B w0 w'->wpList prog ops Q rest (a.put o.dst v') w'):wpList prog ops Q (o::rest) a W:=
 wpList_plain hgd fun _ hK=>IL W w0 s x ho B v L hs hown b c f hx h0 h1 hl hB hb fun v' w' h2 h3=>hK _ _ (h v' w' h2 h3)
theorem QO{ops:Array Oper}{o:Oper}{a:Act}{K:Act->World->Prop}{Q:Exit->Act->World->Prop}{E:Prop}(W w0:World)(hgd:o.guard=none)(s x:Operand)(ho:o.op=.call { callee:=.builtin .append,args:=#[s,x],argTypes:=#[90,90] })
  (B:Nat) (v:Value) (L:List Fl) (hs:a.eval s=v) (hown:bJ W B v L) (b c:Nat) (f:Fl) (hx:a.eval x=.slice (some ⟨b,0,none⟩) 1 c) (h0:W.cell? ⟨b,0,none⟩=some (.string f.1)) (h1:W.cell? ⟨b,1,none⟩=some (.string f.2)) (hl:L.length+1<=1000000) (hB:B<=W.heap.size) (hb:Below B w0 W)
  (h:∀v' w',bJ w' B v' (L++[f])->Below B w0 w'->K (a.put o.dst v') w'):if Region.wanted o (yielded ops a.tmps)=true then Oper.wp prog o a W K Q else E:=by
 have hw:Region.wanted o (yielded ops a.tmps)=true:=by simp[Region.wanted,hgd]
 rw[if_pos hw]
 exact IL W w0 s x ho B v L hs hown b c f hx h0 h1 hl hB hb h
theorem UQ(o:Oper)(a:Act)(n:FuncId)(hcf:∀args w,(callFunc n args).run prog w=.ok (.enter n args) w)(x:Operand)(t:TypeId)(ho:o.op=.call { callee:=.value (.func n),args:=#[x],argTypes:=#[t] })(v:Value)(hx:a.eval x=v)(w:World):(execOp a.eval o).run prog w=.ok (.enter n #[v]) w:=by
 simp[execOp,ho,resolve,invoke,go_sem,Deferred.ofValue,hcf]
 cases x<;>simpa[Act.eval]using hx
theorem Nr{ops:Array Oper}{o:Oper}{a:Act}{w:World}{K:Act->World->Prop}{Q:Exit->Act->World->Prop}{E:Prop}(hgd:o.guard=none)(n:FuncId)(hcf:∀args w,(callFunc n args).run prog w=.ok (.enter n args) w)(x:Operand)(t:TypeId)(ho:o.op=.call { callee:=.value (.func n),args:=#[x],argTypes:=#[t] })(v:Value)(hx:a.eval x=v)(R:Value->World->Prop)
  (hc:Calls prog n #[v] w fun e w'=>∃r,e=.returned r/\R r w') (h:∀r w',R r w'->K (a.put o.dst r) w'):if Region.wanted o (yielded ops a.tmps)=true then Oper.wp prog o a w K Q else E:=by
 have hw:Region.wanted o (yielded ops a.tmps)=true:=by simp[Region.wanted,hgd]
 rw[if_pos hw]
 unfold Oper.wp
 rw[UQ o a n hcf x t ho v hx w,Oper.upon_enter]
 refine hc.mono ?_
 rintro e w' ⟨r,rfl,hr⟩
 exact h r w' hr
abbrev FB:=aa×aa
def jd:aa:=[13,10]
def hlF:Nat->aa->List (aa)×aa
 | 0,s=>([],s)
 | n+1,s=>if s=[] then ([],[]) else if (Lib.cut s jd).1=[] then ([],(Lib.cut s jd).2.1) else ((Lib.cut s jd).1::(hlF n (Lib.cut s jd).2.1).1,(hlF n (Lib.cut s jd).2.1).2)
def hl(s:aa):List (aa)×aa:=hlF s.length s
theorem Dq(s:aa)(h:s≠[]):(Lib.cut s jd).2.1.length<s.length:=by
 have h0:0<s.length:=GL.2 h
 rcases jX s jd with⟨_,h1⟩|⟨_,_,h1⟩
 ·have:jd.length=2:=rfl
  omega
 ·rw[h1];exact h0
theorem YP(k:Nat):∀n s,s.length<=k->s.length<=n->hlF n s=hlF s.length s:=by
 induction k with
 | zero=>
  intro n s h _
  obtain rfl:s=[]:=Xu (by omega)
  cases n<;>rfl
 | succ k ih=>
  intro n s h1 h2
  by_cases hs:s=[]
  ·subst hs
   cases n<;>rfl
  ·have hp:0<s.length:=GL.2 hs
   have hc:=Dq s hs
   obtain⟨n',rfl⟩:∃n',n=n'+1:=⟨n - 1,by omega⟩
   obtain⟨m,hm⟩:∃m,s.length=m+1:=⟨s.length - 1,by omega⟩
   rw[hm]
   unfold hlF
   rw[ih n' _ (by omega) (by omega),ih m _ (by omega) (by omega)]
theorem DN:hl []=([],[]):=rfl
theorem AQ(s:aa)(h:s≠[])(h':(Lib.cut s jd).1=[]):hl s=([],(Lib.cut s jd).2.1):=by
 have hp:0<s.length:=GL.2 h
 obtain⟨m,hm⟩:∃m,s.length=m+1:=⟨s.length - 1,by omega⟩
 unfold hl
 rw[hm,hlF,if_neg h,if_pos h']
theorem Po(s:aa)(h:s≠[])(h':(Lib.cut s jd).1≠[]):hl s=((Lib.cut s jd).1::(hl (Lib.cut s jd).2.1).1,(hl (Lib.cut s jd).2.1).2):=by
 have hp:0<s.length:=GL.2 h
 have hc:=Dq s h
 obtain⟨m,hm⟩:∃m,s.length=m+1:=⟨s.length - 1,by omega⟩
 unfold hl
 rw[hm,hlF,if_neg h,if_neg h',YP m m _ (by omega) (by omega)]
def il(x:aa):Option FB:=if (Lib.cut x [58]).2.2&&jY (Lib.cut x [58]).1 then some ((Lib.cut x [58]).1,(Lib.cut x [58]).2.1) else none
def o6(x:aa):Bool:=match x with|c::_=>blk c|[]=>false
def oO(acc:List FB)(x:aa):List FB:=match acc.getLast? with|some f=>acc.dropLast++[(f.1,f.2++x)]|none=>acc
def dm:List (aa)->Nat->List FB->Except Nat (List FB)
 | [],_,acc=>.ok acc
 | x::xs,n,acc=>if o6 x&&!acc.isEmpty then dm xs (n+1) (oO acc x) else match il x with|none=>.error n|some f=>dm xs (n+1) (acc++[f])
def fl2(f:Fl):FB:=(f.1.data.toList,f.2.data.toList)
theorem xx(M:List FB)(f:FB)(x:aa):oO (M++[f]) x=M++[(f.1,f.2++x)]:=by simp[oO]
theorem yg{x:aa}{xs:List (aa)}{n:Nat}{acc:List FB}{f:FB}(h:il x=some f)(hg:(o6 x&&!acc.isEmpty)=false):dm (x::xs) n acc=dm xs (n+1) (acc++[f]):=by
 rw[dm,hg,h];rfl
theorem zo{x:aa}{xs:List (aa)}{n:Nat}{acc:List FB}(h:il x=none)(hg:(o6 x&&!acc.isEmpty)=false):dm (x::xs) n acc=.error n:=by
 rw[dm,hg,h];rfl
theorem zm(zs:List (aa)):∀(ys:List (aa)) (n:Nat) (acc:List FB) (f:FB),(∀z∈zs,o6 z=true)->dm (zs++ys) n (acc++[f])=dm ys (n+zs.length) (acc++[(f.1,f.2++zs.flatten)]):=by
 induction zs with
 | nil=>intro ys n acc f _;simp
 | cons z zs ih=>
  intro ys n acc f h
  rw[List.cons_append,dm,h z ZW]
  have e:(true&&!(acc++[f]).isEmpty)=true:=by simp
  rw[e,if_pos rfl,xx,ih ys (n+1) acc _ (fun y hy=>h y (ZX _ hy))]
  simp only[ZV,VQ,List.append_assoc]
  congr 1
  omega
theorem XA(x:ByteArray)(h:0<x.size):o6 x.data.toList=blk x[0]:=by rw[wh x h];rfl
theorem VD(s:aa):(Lib.cut s jd).1.length+(Lib.cut s jd).2.1.length<=s.length:=by
 rcases jX s jd with⟨_,h1⟩|⟨_,h1,h2⟩
 ·omega
 ·rw[h1,h2];simp
theorem Gt(k:Nat):∀s,s.length<=k->(hl s).1.flatten.length+(hl s).2.length<=s.length:=by
 induction k with
 | zero=>
  intro s h
  obtain rfl:s=[]:=Xu (by omega)
  simp[DN]
 | succ k ih=>
  intro s h
  have hle:=VD s
  by_cases hs:s=[]
  ·subst hs;simp[DN]
  ·by_cases hc:(Lib.cut s jd).1=[]
   ·rw[AQ s hs hc]
    simp;omega
   ·have hlt:=Dq s hs
    have:=ih (Lib.cut s jd).2.1 (by omega)
    rw[Po s hs hc]
    simp only[VQ,Ws]
    omega
theorem Gy(k:Nat):∀s,s.length<=k->∀x∈(hl s).1,x≠[]:=by
 induction k with
 | zero=>
  intro s h x hx
  obtain rfl:s=[]:=Xu (by omega)
  simp[DN]at hx
 | succ k ih=>
  intro s h x hx
  by_cases hs:s=[]
  ·subst hs;simp[DN]at hx
  ·by_cases hc:(Lib.cut s jd).1=[]
   ·rw[AQ s hs hc]at hx
    simp at hx
   ·have hlt:=Dq s hs
    rw[Po s hs hc]at hx
    rcases List.mem_cons.1 hx with rfl|hx
    ·exact hc
    ·exact ih _ (by omega) x hx
theorem M5(ws:List (aa))(h:∀x∈ws,x≠[]):ws.length<=ws.flatten.length:=by
 induction ws with
 | nil=>simp
 | cons x ws ih=>
  have h1:=ih fun y hy=>h y (ZX _ hy)
  have h2:0<x.length:=GL.2 (h x ZW)
  rw[ZV,VQ,Ws]
  omega
theorem Oi(t:ByteArray)(h:¬t.size=0):t.data.toList≠[]:=fun e=>h (by rw[<-ae,e];rfl)
theorem DW(s:ByteArray)(w:World)(hs:s.size<=100000)(hm:Max w):
  Calls prog 271 #[.string s] w fun e w'=>∃v ss r,e=.returned (.tuple #[v,.string r])/\aV w' w.heap.size v ss/\ss.map lst=(hl s.data.toList).1/\r.data.toList=(hl s.data.toList).2/\Below w.heap.size w w':=by
 have hw0:=hm.1
 have HMx:=Box.m hm
 clear hm
 go_enter func271,ntmps271
 go_wp2
 go_loopw [0,4] (fun x v wr=>∃(t:ByteArray) (ss:List ByteArray),x=.string t/\aV wr w.heap.size v ss/\t.size<=s.size/\ss.length+t.size<=s.size/\Below w.heap.size w wr/\Box (ss.map lst++(hl t.data.toList).1=(hl s.data.toList).1/\(hl t.data.toList).2=(hl s.data.toList).2)) (fun x _ _=>qP x)
 case atStart=>exact⟨s,[],rfl,aV.nil _ _,Nat.le_refl _,by simp,Below.refl _ _,⟨rfl,rfl⟩⟩
 case round=>
  obtain⟨t,ss,rfl,hown,hts,hss,hb,HH⟩:=hrel
  have hsz:=hb.size
  by_cases h0:t.size=0
  ·have he:=dC t h0
   have HE:Box (ss.map lst=(hl s.data.toList).1/\t.data.toList=(hl s.data.toList).2):=⟨by
    have:=HH.o
    rw[fZ t h0,DN]at this
    rw[fZ t h0]
    exact⟨by simpa using this.1,this.2⟩⟩
   clear HH HMx
   go_wp2
   go_ret2
   exact⟨_,_,_,rfl,hown,HE.o.1,HE.o.2,hb⟩
  ·have he:=bN t h0
   have HN:=Box.m (Oi t h0)
   go_wp2_with fail
   refine(qL t ⟨#[13,10]⟩ _ (by omega) (HMx.o.below hb hw0)).mono ?_
   rintro e w1 ⟨a,b,f,rfl,hc,ha,hbs,hb1⟩
   have hlt:=Dq t.data.toList HN.o
   have hle:=VD t.data.toList
   have hc':Lib.cut t.data.toList jd=(a.data.toList,b.data.toList,f):=hc
   rw[hc']at hlt hle
   simp only[ae]at hlt hle
   have hb2:=hb.trans (hb1.mono hsz)
   have hown1:=hown.below hb1 af
   have hsz2:=hb2.size
   by_cases ha0:a.size=0
   ·have hea:=dC a ha0
    have HE:Box (ss.map lst=(hl s.data.toList).1/\b.data.toList=(hl s.data.toList).2):=⟨by
     have:=HH.o
     rw[AQ _ HN.o (by rw[hc'];exact fZ a ha0),hc']at this
     exact⟨by simpa using this.1,this.2⟩⟩
    clear HH HN HMx hc hc' hown
    go_wp2
    go_ret2
    exact⟨_,_,_,rfl,hown1,HE.o.1,HE.o.2,hb2⟩
   ·have hea:=bN a ha0
    have HE:Box ((ss++[a]).map lst++(hl b.data.toList).1=(hl s.data.toList).1/\(hl b.data.toList).2=(hl s.data.toList).2):=⟨by
     have:=HH.o
     rw[Po _ HN.o (by rw[hc'];exact Oi a ha0),hc']at this
     refine⟨?_,this.2⟩
     rw[<-this.1]
     simp[lst]⟩
    have ha1:0<a.size:=by omega
    clear HH HN HMx hc hc' hown
    go_wp2_with (at_builtin;refine oK _ w rfl (.tmp 16) (.tmp 18) rfl w.heap.size _ _ rfl hown1 a rfl (by omega) hsz2 hb2 ?_;intro v' w3 hown3 hb3)
    go_roundw
    case rel=>exact⟨b,ss++[a],rfl,hown3,by omega,by simp;omega,hb3,HE⟩
    case measure=>simp[qP];omega
theorem CL(x:ByteArray)(w:World)(h:0<x.size):
  Calls prog 273 #[.string x] w fun e w'=>e=.returned (.bool (o6 x.data.toList))/\w'=w:=by
 have HG:=Box.m (XA x h)
 go_enter func273,ntmps273
 go_wp2_with (go_at_call 278;refine(qO _ _).mono ?_;rintro e w' ⟨rfl,rfl⟩)
 go_ret
 exact⟨aN HG.o.symm,rfl⟩
end Go.Proofs.YtkldkhdigkpniaaGreatDoor
