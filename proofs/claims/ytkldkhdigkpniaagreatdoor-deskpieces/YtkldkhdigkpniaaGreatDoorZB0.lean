import Derived.Test.YtkldkhdigkpniaaGreatDoorProg
import Derived.WalkKit
import Derived.WalkSpells
import Derived.WalkLawsBesides
import Derived.Lib.AppendStr
import Derived.Laws.IdiomStrings
open List renaming getElem?_eq_getElem → GL, length_append → VQ
namespace Go.Proofs.YtkldkhdigkpniaaGreatDoor
open Go.RowKit Go.Proofs.Tryz
theorem _root_.Go.RowKit.Hid.o{p:Prop}(h:Hid p):p:=h
theorem af{n:Nat}:n<=n:=Nat.le_refl _
theorem ag{B:Nat}{w:World}:Below B w w:=Below.refl _ _
theorem aH{α:Type _}(l:List α)(i:Nat)(a:α):l.toArray.setIfInBounds i a=(l.set i a).toArray:=List.setIfInBounds_toArray ..
theorem aG{α:Type _}(x:α)(l:List α)(a:α):(x::l).set 0 a=a::l:=rfl
theorem aI{α:Type _}(x:α)(l:List α)(n:Nat)(a:α):(x::l).set (n+1) a=x::l.set n a:=rfl
abbrev aa:=List UInt8
theorem aN{a b:Bool}(h:a=b):Ending.returned (.bool a)=.returned (.bool b):=by rw[h]
theorem lv{k:IntKind}{a b:Int}(h:a=b):Ending.returned (.int k a)=.returned (.int k b):=by rw[h]
theorem AY{a b:ByteArray}(h:a=b):Ending.returned (.string a)=.returned (.string b):=by rw[h]
def cs(l:aa):List Value:=l.map fun b=>Value.int .u8 (b.toNat:Int)
theorem pY(l:aa):(cs l).length=l.length:=by simp[cs]
theorem mJ(a b:aa):cs (a++b)=cs a++cs b:=by simp[cs]
theorem Dg(l:aa):∀u∈cs l,u.oneCell'=true:=by
 intro u hu
 simp only[cs,List.mem_map]at hu
 obtain⟨b,_,rfl⟩:=hu
 rfl
def Own(w:World)(B:Nat)(v:Value)(l:aa):Prop:=w.ownsRow B 5 1 v l.length (cs l)
theorem Tryz.infoByte:(prog.info? 5).map (fun i=>(i.zero,i.size,i.bytes))=some (some (.int .u8 0),1,1):=by kernel_rfl
theorem Own.nil(w:World)(B:Nat):Own w B (.slice none 0 0) []:=World.ownsRow_nil _ _ _ _
theorem Own.lit(w:World)(B:Nat)(l:aa)(n:Nat)(hn:l.length=n)(hB:B<=w.heap.size)(hl:n<=1000000000):Own (w.alloc (.cells (cs l).toArray 5)) B (.slice (some ⟨w.heap.size,0,none⟩) n n) l:=by
 subst hn
 have h:=World.ownsRow_lit (e:=5) (size:=1) (base:=B) w (cs l).toArray l.length hB (by unfold maxLen;omega) (by simp[cs])
 simpa[Own]using h
theorem Own.below{w w':World}{B C:Nat}{v:Value}{l:aa}(h:Own w B v l)(hb:Below C w w')(hC:w.heap.size<=C):Own w' B v l:=by
 obtain⟨h1,h2⟩:=h
 refine⟨h1,?_⟩
 rcases h2 with h2|⟨g,cap,cur,a,b,c,d⟩
 ·exact .inl h2
 ·refine .inr ⟨g,cap,cur,a,b,?_,d⟩
  rw[hb.block g ?_]
  ·exact c
  ·have:=(Array.getElem?_eq_some_iff.1 c).1
   omega
theorem Own.shape{w:World}{B:Nat}{v:Value}{l:aa}(h:Own w B v l):
  (v=.slice none 0 0/\l=[])\/∃g cap,v=.slice (some ⟨g,0,none⟩) l.length cap/\B<=g/\g<w.heap.size/\l.length<=cap/\cap<=maxLen/\∀k (hk:k<l.length),w.cell? ⟨g,k,none⟩=some (.int .u8 (l[k].toNat:Int)):=by
 rcases h.2 with⟨a,b⟩|⟨g,cap,cur,a,b,c,d,e,_⟩
 ·exact .inl ⟨a,List.eq_nil_of_length_eq_zero b⟩
 ·refine .inr ⟨g,cap,a,b,(Array.getElem?_eq_some_iff.1 c).1,d,e,fun k hk=>?_⟩
  have h':=h
  rw[a]at h'
  have hc:=World.ownsRow.cellAt h' k (by omega)
  rw[hc]
  simp[cs,GL hk]
theorem Own.take{w:World}{B g cap n:Nat}{l:aa}(h:Own w B (.slice (some ⟨g,0,none⟩) n cap) l)(m:Nat)(hm:m<=l.length):Own w B (.slice (some ⟨g,0,none⟩) m cap) (l.take m):=by
 obtain⟨h1,h2⟩:=h
 have hlen:(l.take m).length=m:=by simp;omega
 refine⟨by simp[cs],?_⟩
 rcases h2 with⟨h2,_⟩|⟨g',cap',cur,a,b,c,d,e,f,i⟩
 ·cases h2
 ·simp only[Value.slice.injEq,Option.some.injEq,Addr.mk.injEq,and_true]at a
  obtain⟨rfl,rfl,rfl⟩:=a
  refine .inr ⟨g,cap,cur,by rw[hlen],b,c,by omega,e,f,?_⟩
  rw[hlen]
  have:cs (l.take m)=(cs l).take m:=by simp[cs]
  rw[this,<-i,List.take_take]
  congr 1
  omega
theorem Own.string{w:World}{B:Nat}{v:Value}{l:aa}(h:Own w B v l):(convert 32 9 v).run prog w=.ok (.string ⟨l.toArray⟩) w:=by
 rcases h.shape with⟨rfl,rfl⟩|⟨g,cap,rfl,_,_,_,_,hc⟩
 ·rw[run_convert_bytes_string w _ _ 5 none 0 0 underlying32 underlying5 underlying9]
  rfl
 ·refine run_convert_bytes_back w _ _ 5 ⟨g,0,none⟩ cap l underlying32 underlying5 underlying9 (fun j hj=>?_)
  have:=hc j hj
  rw[Addr.add_lit]
  simpa using this
section
variable {ops:Array Oper} {rest:List Oper} {o:Oper} {a:Act} {Q:Exit->Act->World->Prop}
theorem nK(W w0:World)(hgd:o.guard=none)(s x:Operand)(ho:o.op=.call { callee:=.builtin .append,args:=#[s,x],argTypes:=#[32,32] })
  (B:Nat) (v:Value) (l:aa) (hs:a.eval s=v) (hown:Own W B v l) (ad:Addr) (m c:Nat) (n:aa) (hx:a.eval x=.slice (some ad) m c) (hm:n.length=m)
  (hc:∀j (hj:j<n.length),W.cell? (ad.add j)=some (.int .u8 (n[j].toNat:Int))) (hl:l.length+n.length<=1000000000) (hB:B<=W.heap.size) (hb:Below B w0 W)
  (h:∀v' w',Own w' B v' (l++n)->Below B w0 w'->W.grownBy w' v.ownBlock->wpList prog ops Q rest (a.put o.dst v') w'):wpList prog ops Q (o::rest) a W:=by
 obtain⟨i0,hi,hz0,hz1,hz2⟩:=info_parts Tryz.infoByte
 subst hm
 refine wpList_append_own W hgd s x 32 ho B 5 i0 (.int .u8 0) 1 1 underlying32 hi hz0 hz1 hz2 rfl (by decide) v l.length (cs l) hs hown ad n.length c (cs n) hx (by simp[cs]) ?_ (Dg n) (by unfold maxLen;omega) (by omega) hB ?_
 ·intro j u hj
  have hj':j<n.length:=by simpa[cs]using(List.getElem?_eq_some_iff.1 hj).1
  rw[hc j hj']
  simpa[cs,GL hj']using hj
 ·intro v' w' h1 h2 _
  refine h v' w' ?_ (hb.grown h2 hB (fun k hk=>(hown.lt k hk).1)) h2
  unfold Own
  rw[VQ,mJ]
  exact h1
theorem kK(wr w0:World)(z:Int)(hgd:o.guard=none)(s x:Operand)(ho:o.op=.call { callee:=.builtin .append,args:=#[s,x],argTypes:=#[32,32] })
  (B:Nat) (v:Value) (l:aa) (hs:a.eval s=v) (hown:Own wr B v l) (hx:a.eval x=.slice (some ⟨wr.heap.size,0,none⟩) 1 1) (c:UInt8) (hz:z=(c.toNat:Int))
  (hl:l.length+1<=1000000000) (hB:B<=wr.heap.size) (hb:Below B w0 wr)
  (h:∀v' w',Own w' B v' (l++[c])->Below B w0 w'->wpList prog ops Q rest (a.put o.dst v') w'):wpList prog ops Q (o::rest) a (wr.alloc (.cells #[.int .u8 z] 5)):=by
 subst hz
 refine nK (wr.alloc (.cells #[.int .u8 (c.toNat:Int)] 5)) w0 hgd s x ho B v l hs (hown.alloc _) ⟨wr.heap.size,0,none⟩ 1 1 [c] hx rfl ?_ (by simpa using hl) (by simp;omega) (hb.alloc hB _) fun v' w' h1 h2 _=>h v' w' h1 h2
 intro j hj
 have:j=0:=by simp at hj;omega
 subst this
 simp[Addr.add]
theorem ol(W w0:World)(hgd:o.guard=none)(s x:Operand)(ho:o.op=.call { callee:=.builtin .append,args:=#[s,x],argTypes:=#[32,9] })
  (B:Nat) (v:Value) (l:aa) (hs:a.eval s=v) (hown:Own W B v l) (t:ByteArray) (hx:a.eval x=.string t) (hl:l.length+t.size<=1000000000) (hB:B<=W.heap.size) (hb:Below B w0 W)
  (h:∀v' w',Own w' B v' (l++t.data.toList)->Below B w0 w'->wpList prog ops Q rest (a.put o.dst v') w'):wpList prog ops Q (o::rest) a W:=by
 obtain⟨i0,hi,hz0,hz1,hz2⟩:=info_parts Tryz.infoByte
 refine Lib.wpList_append_own_string W hgd s x 32 9 ho B 5 i0 underlying32 underlying9 hi hz0 hz1 hz2 v l.length (cs l) hs hown t hx (by unfold maxLen;omega) (by omega) hB ?_
 intro v' w' h1 h2 _
 refine h v' w' ?_ (hb.grown h2 hB (fun k hk=>(hown.lt k hk).1))
 unfold Own
 rw[VQ,mJ]
 exact h1
end
end Go.Proofs.YtkldkhdigkpniaaGreatDoor
