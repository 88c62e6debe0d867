import Derived.Test.YtknhacbfddggpaaGreatDoorProg
import Derived.WalkKit
import Derived.WalkSpells
import Derived.WalkLawsBesides
import Derived.Lib.AppendStr
import Derived.Laws.IdiomStrings
namespace Go.Proofs.YtknhacbfddggpaaGreatDoor
open Go.RowKit
theorem ret_bool {a b:Bool} (h:a = b):Ending.returned (.bool a) = .returned (.bool b):=by rw [h]
theorem ret_int {k:IntKind} {a b:Int} (h:a = b):Ending.returned (.int k a) = .returned (.int k b):=by rw [h]
theorem ret_str {a b:ByteArray} (h:a = b):Ending.returned (.string a) = .returned (.string b):=by rw [h]
def cs (l:List UInt8):List Value:=l.map fun b=>Value.int .u8 (b.toNat:Int)
theorem cs_length (l:List UInt8):(cs l).length = l.length:=by simp [cs]
theorem cs_append (a b:List UInt8):cs (a++b) = cs a++cs b:=by simp [cs]
theorem cs_oneCell (l:List UInt8):∀ u ∈ cs l,u.oneCell' = true:=by
 intro u hu
 simp only [cs,List.mem_map] at hu
 obtain ⟨b,_,rfl⟩:=hu
 rfl
def Own (w:World) (B:Nat) (v:Value) (l:List UInt8):Prop:=w.ownsRow B 5 1 v l.length (cs l)
theorem Tryz.infoByte:(Tryz.prog.info? 5).map (fun i=>(i.zero,i.size,i.bytes)) = some (some (.int .u8 0),1,1):=by kernel_rfl
theorem Own.nil (w:World) (B:Nat):Own w B (.slice none 0 0) []:=World.ownsRow_nil _ _ _ _
theorem Own.lit (w:World) (B:Nat) (l:List UInt8) (n:Nat) (hn:l.length = n) (hB:B ≤ w.heap.size) (hl:n ≤ 1000000000):Own (w.alloc (.cells (cs l).toArray 5)) B (.slice (some ⟨w.heap.size,0,none⟩) n n) l:=by
 subst hn
 have h:=World.ownsRow_lit (e:=5) (size:=1) (base:=B) w (cs l).toArray l.length hB (by unfold maxLen; omega) (by simp [cs])
 simpa [Own] using h
theorem Own.below {w w':World} {B C:Nat} {v:Value} {l:List UInt8} (h:Own w B v l) (hb:Below C w w') (hC:w.heap.size ≤ C):Own w' B v l:=by
 obtain ⟨h1,h2⟩:=h
 refine ⟨h1,?_⟩
 rcases h2 with h2 | ⟨g,cap,cur,a,b,c,d⟩
 ·exact .inl h2
 ·refine .inr ⟨g,cap,cur,a,b,?_,d⟩
  rw [hb.block g ?_]
  ·exact c
  ·have:=(Array.getElem?_eq_some_iff.1 c).1
   omega
theorem Own.shape {w:World} {B:Nat} {v:Value} {l:List UInt8} (h:Own w B v l) :
  (v = .slice none 0 0∧l = []) ∨ ∃ g cap,v = .slice (some ⟨g,0,none⟩) l.length cap∧B ≤ g∧g < w.heap.size∧l.length ≤ cap∧cap ≤ maxLen∧∀ k (hk:k < l.length),w.cell? ⟨g,k,none⟩ = some (.int .u8 (l[k].toNat:Int)):=by
 rcases h.2 with ⟨a,b⟩ | ⟨g,cap,cur,a,b,c,d,e,_⟩
 ·exact .inl ⟨a,List.eq_nil_of_length_eq_zero b⟩
 ·refine .inr ⟨g,cap,a,b,(Array.getElem?_eq_some_iff.1 c).1,d,e,fun k hk=>?_⟩
  have h':=h
  rw [a] at h'
  have hc:=World.ownsRow.cellAt h' k (by omega)
  rw [hc]
  simp [cs,List.getElem?_eq_getElem hk]
theorem Own.take {w:World} {B g cap n:Nat} {l:List UInt8} (h:Own w B (.slice (some ⟨g,0,none⟩) n cap) l) (m:Nat) (hm:m ≤ l.length):Own w B (.slice (some ⟨g,0,none⟩) m cap) (l.take m):=by
 obtain ⟨h1,h2⟩:=h
 have hlen:(l.take m).length = m:=by simp; omega
 refine ⟨by simp [cs],?_⟩
 rcases h2 with ⟨h2,_⟩ | ⟨g',cap',cur,a,b,c,d,e,f,i⟩
 ·cases h2
 ·simp only [Value.slice.injEq,Option.some.injEq,Addr.mk.injEq,and_true] at a
  obtain ⟨rfl,rfl,rfl⟩:=a
  refine .inr ⟨g,cap,cur,by rw [hlen],b,c,by omega,e,f,?_⟩
  rw [hlen]
  have:cs (l.take m) = (cs l).take m:=by simp [cs]
  rw [this,← i,List.take_take]
  congr 1
  omega
theorem Own.string {w:World} {B:Nat} {v:Value} {l:List UInt8} (h:Own w B v l):(convert 147 9 v).run Tryz.prog w = .ok (.string ⟨l.toArray⟩) w:=by
 rcases h.shape with ⟨rfl,rfl⟩ | ⟨g,cap,rfl,_,_,_,_,hc⟩
 ·rw [run_convert_bytes_string w _ _ 5 none 0 0 Tryz.underlying147 Tryz.underlying5 Tryz.underlying9]
  rfl
 ·refine run_convert_bytes_back w _ _ 5 ⟨g,0,none⟩ cap l Tryz.underlying147 Tryz.underlying5 Tryz.underlying9 (fun j hj=>?_)
  have:=hc j hj
  rw [Addr.add_lit]
  simpa using this
section
variable {ops:Array Oper} {rest:List Oper} {o:Oper} {a:Act} {Q:Exit → Act → World → Prop}
theorem wp_app (W w0:World) (hgd:o.guard = none) (s x:Operand) (ho:o.op = .call { callee:=.builtin .append,args:=#[s,x],argTypes:=#[147,147] })
  (B:Nat) (v:Value) (l:List UInt8) (hs:a.eval s = v) (hown:Own W B v l) (ad:Addr) (m c:Nat) (n:List UInt8) (hx:a.eval x = .slice (some ad) m c) (hm:n.length = m)
  (hc:∀ j (hj:j < n.length),W.cell? (ad.add j) = some (.int .u8 (n[j].toNat:Int))) (hl:l.length+n.length ≤ 1000000000) (hB:B ≤ W.heap.size) (hb:Below B w0 W)
  (h:∀ v' w',Own w' B v' (l++n) → Below B w0 w' → W.grownBy w' v.ownBlock → wpList Tryz.prog ops Q rest (a.put o.dst v') w'):wpList Tryz.prog ops Q (o :: rest) a W:=by
 obtain ⟨i0,hi,hz0,hz1,hz2⟩:=info_parts Tryz.infoByte
 subst hm
 refine wpList_append_own W hgd s x 147 ho B 5 i0 (.int .u8 0) 1 1 Tryz.underlying147 hi hz0 hz1 hz2 rfl (by decide) v l.length (cs l) hs hown ad n.length c (cs n) hx (by simp [cs]) ?_ (cs_oneCell n) (by unfold maxLen; omega) (by omega) hB ?_
 ·intro j u hj
  have hj':j < n.length:=by simpa [cs] using (List.getElem?_eq_some_iff.1 hj).1
  rw [hc j hj']
  simpa [cs,List.getElem?_eq_getElem hj'] using hj
 ·intro v' w' h1 h2 _
  refine h v' w' ?_ (hb.grown h2 hB (fun k hk=>(hown.lt k hk).1)) h2
  unfold Own
  rw [List.length_append,cs_append]
  exact h1
theorem wp_app1 (wr w0:World) (z:Int) (hgd:o.guard = none) (s x:Operand) (ho:o.op = .call { callee:=.builtin .append,args:=#[s,x],argTypes:=#[147,147] })
  (B:Nat) (v:Value) (l:List UInt8) (hs:a.eval s = v) (hown:Own wr B v l) (hx:a.eval x = .slice (some ⟨wr.heap.size,0,none⟩) 1 1) (c:UInt8) (hz:z = (c.toNat:Int))
  (hl:l.length+1 ≤ 1000000000) (hB:B ≤ wr.heap.size) (hb:Below B w0 wr)
  (h:∀ v' w',Own w' B v' (l++[c]) → Below B w0 w' → wpList Tryz.prog ops Q rest (a.put o.dst v') w'):wpList Tryz.prog ops Q (o :: rest) a (wr.alloc (.cells #[.int .u8 z] 5)):=by
 subst hz
 refine wp_app (wr.alloc (.cells #[.int .u8 (c.toNat:Int)] 5)) w0 hgd s x ho B v l hs (hown.alloc _) ⟨wr.heap.size,0,none⟩ 1 1 [c] hx rfl ?_ (by simpa using hl) (by simp; omega) (hb.alloc hB _) fun v' w' h1 h2 _=>h v' w' h1 h2
 intro j hj
 have:j = 0:=by simp at hj; omega
 subst this
 simp [Addr.add]
theorem wp_appS (W w0:World) (hgd:o.guard = none) (s x:Operand) (ho:o.op = .call { callee:=.builtin .append,args:=#[s,x],argTypes:=#[147,9] })
  (B:Nat) (v:Value) (l:List UInt8) (hs:a.eval s = v) (hown:Own W B v l) (t:ByteArray) (hx:a.eval x = .string t) (hl:l.length+t.size ≤ 1000000000) (hB:B ≤ W.heap.size) (hb:Below B w0 W)
  (h:∀ v' w',Own w' B v' (l++t.data.toList) → Below B w0 w' → wpList Tryz.prog ops Q rest (a.put o.dst v') w'):wpList Tryz.prog ops Q (o :: rest) a W:=by
 obtain ⟨i0,hi,hz0,hz1,hz2⟩:=info_parts Tryz.infoByte
 refine Lib.wpList_append_own_string W hgd s x 147 9 ho B 5 i0 Tryz.underlying147 Tryz.underlying9 hi hz0 hz1 hz2 v l.length (cs l) hs hown t hx (by unfold maxLen; omega) (by omega) hB ?_
 intro v' w' h1 h2 _
 refine h v' w' ?_ (hb.grown h2 hB (fun k hk=>(hown.lt k hk).1))
 unfold Own
 rw [List.length_append,cs_append]
 exact h1
end
end Go.Proofs.YtknhacbfddggpaaGreatDoor
