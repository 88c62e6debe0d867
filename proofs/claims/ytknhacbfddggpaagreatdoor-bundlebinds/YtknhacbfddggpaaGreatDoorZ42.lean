import Derived.Test.YtknhacbfddggpaaGreatDoorZ40
import Derived.Test.YtknhacbfddggpaaGreatDoorZ41
import Derived.Test.YtknhacbfddggpaaGreatDoorZ23
import Derived.Test.YtknhacbfddggpaaGreatDoorZ34
import Derived.Test.YtknhacbfddggpaaGreatDoorZ13
import Derived.Test.YtknhacbfddggpaaGreatDoorZ33
import Derived.Test.YtknhacbfddggpaaGreatDoorZ28
import Derived.Deep.RegionHeld3
namespace Go.Proofs.YtknhacbfddggpaaGreatDoor
open Go.RowKit Go.Proofs.Px
theorem texts_are (hl:List Fl) (ps:List XP) (root:Nat):textsB ⟨hl.map fl2,ps.map XP.bp,root⟩ = (hl.map (·.2)++saysTo ps ps.length).map lst:=by
 unfold textsB saysTo
 rw [List.take_of_length_le (Nat.le_refl _),List.map_append,List.map_map,List.map_map,List.flatMap_map,List.map_flatMap]
 congr 1
 congr 1
 funext p
 show (p.fs.map fl2).map (·.2)++[p.bd.data.toList] = _
 rw [List.map_map,List.map_append,List.map_map]
 rfl
theorem pv_row {w:World} {S:Nat → Prop} {d:Nat} {v:P4} {L:List PB} {b:List UInt8} {many:Bool} {ps:List PT} (h:PV w S (d+1+1) v (.mk L b many ps)):∃ A cap,v.2.2.2 = .slice A ps.length cap∧ps.length ≤ cap∧PRow w A (ps.map manyB):=by
 obtain ⟨A,cap,bb,lh,h1,h2,h3,h4,h5,h6,h7,h9,h10,h11⟩:=h
 refine ⟨A,cap,h3,h9,fun k hk=>?_⟩
 rw [List.length_map] at hk
 obtain ⟨q,hc,hq⟩:=h11 k hk
 obtain ⟨g,off,e,_,c0,c1,c2,c3⟩:=hc
 have hm:(ps.map manyB)[k]'(by rw [List.length_map]; exact hk) = manyB ps[k]:=List.getElem_map _
 cases hp:ps[k] with
 | mk L' b' m' ps' =>
  rw [hp] at hq
  obtain ⟨A',cap',bb',lh',g1,g2,g3,⟨A1,cp1,g4,_⟩,_⟩:=hq
  rw [g4] at c0
  rw [g1] at c1
  rw [g2] at c2
  rw [g3] at c3
  refine ⟨g,off,_,_,_,_,_,_,_,e,c0,c1,?_,c3⟩
  rw [c2,hm,hp]
  rfl
end Go.Proofs.YtknhacbfddggpaaGreatDoor
namespace Go.Proofs.YtknhacbfddggpaaGreatDoor
open Go.RowKit Go.Proofs.Px
theorem step_appP {ops:Array Oper} {o:Oper} {a:Act} {K:Act → World → Prop} {Q:Exit → Act → World → Prop} {E:Prop} (W:World) (hgd:o.guard = none) (s x:Operand) (ho:o.op = .call { callee:=.builtin .append,args:=#[s,x],argTypes:=#[33,33] })
  (B:Nat) (v:Value) (L:List P4) (hs:a.eval s = v) (hown:OwnP W B v L) (b c:Nat) (p:P4) (hx:a.eval x = .slice (some ⟨b,0,none⟩) 1 c) (h0:W.cell? ⟨b,0,none⟩ = some p.1) (h1:W.cell? ⟨b,1,none⟩ = some p.2.1) (h2:W.cell? ⟨b,2,none⟩ = some p.2.2.1) (h3:W.cell? ⟨b,3,none⟩ = some p.2.2.2)
  (hc:p.1.oneCell' = true∧p.2.1.oneCell' = true∧p.2.2.1.oneCell' = true∧p.2.2.2.oneCell' = true) (hl:L.length+1 ≤ 1000000) (hB:B ≤ W.heap.size)
  (h:∀ v' w',OwnP w' B v' (L++[p]) → W.grownBy w' v.ownBlock → (v'.ownBlock = v.ownBlock ∨ v'.ownBlock = some W.heap.size) → K (a.put o.dst v') w'):if Region.wanted o (yielded ops a.tmps) = true then Oper.wp Tryz.prog o a W K Q else E:=by
 have hw:Region.wanted o (yielded ops a.tmps) = true:=by simp [Region.wanted,hgd]
 rw [if_pos hw]
 obtain ⟨i0,hi,hz0,hz1,hz2⟩:=info_parts Tryz.infoPart
 have hne:∀ j u,(pcells [p])[j]? = some u → W.cell? ((⟨b,0,none⟩:Addr).add j) = some u:=by
  intro j u hj
  have hjl:j < 4:=(List.getElem?_eq_some_iff.1 hj).1
  rw [Addr.add_lit,Nat.zero_add]
  match j,hjl,hj with
  | 0,_,hj=>rw [h0]; exact hj
  | 1,_,hj=>rw [h1]; exact hj
  | 2,_,hj=>rw [h2]; exact hj
  | 3,_,hj=>rw [h3]; exact hj
 have hone:∀ u ∈ pcells [p],u.oneCell' = true:=by
  intro u hu
  have:u = p.1 ∨ u = p.2.1 ∨ u = p.2.2.1 ∨ u = p.2.2.2:=by simpa [pcells] using hu
  rcases this with rfl | rfl | rfl | rfl
  ·exact hc.1
  ·exact hc.2.1
  ·exact hc.2.2.1
  ·exact hc.2.2.2
 obtain ⟨v',w',hr,k2,k3,_⟩:=run_append_own (P:=Tryz.prog) W B 33 o.type 44 i0 (.agg #[.slice none 0 0,.string ⟨#[]⟩,.bool false,.slice none 0 0]) 4 72 Tryz.underlying33 hi hz0 hz1 hz2 rfl (by decide) v L.length (pcells L) hown ⟨b,0,none⟩ 1 c (pcells [p]) rfl hne hone (by unfold maxLen; omega) (by omega) hB
 have hblk:=append_block W B 33 o.type 44 i0 (.agg #[.slice none 0 0,.string ⟨#[]⟩,.bool false,.slice none 0 0]) 4 72 Tryz.underlying33 hi hz0 hz1 hz2 v L.length (pcells L) hown ⟨b,0,none⟩ 1 c (pcells [p]) rfl hne hone (by decide) (by unfold maxLen; omega) (by omega) v' w' hr
 unfold Oper.wp execOp
 simp only [ho,resolve,invoke,builtin,Sem.run_bind,Sem.run_pure,Result.andThen_ok,List.map_toArray,List.map_cons,List.map_nil,hs,hx,hr]
 refine h v' w' ?_ k3 hblk
 unfold OwnP
 rw [List.length_append,pcells_append]
 exact k2
theorem OwnP.belowP {w w':World} {B C:Nat} {v:Value} {L:List P4} (h:OwnP w B v L) (hb:Below C w w') (hC:w.heap.size ≤ C):OwnP w' B v L:=by
 obtain ⟨h1,h2⟩:=h
 refine ⟨h1,?_⟩
 rcases h2 with h2 | ⟨g,cap,cur,a,b,c,d⟩
 ·exact .inl h2
 ·refine .inr ⟨g,cap,cur,a,b,?_,d⟩
  rw [hb.block g ?_]
  ·exact c
  ·have:=(Array.getElem?_eq_some_iff.1 c).1
   omega
set_option maxHeartbeats 2000000 in
set_option maxRecDepth 100000 in
theorem bparts_any {w:World} {b:Nat} {hv:Value} {hl:List Fl} {A:Option Addr} {cap:Nat} {ps:List XP} {root:Nat} (h:BN w b hv hl A cap ps root) :
  Calls Tryz.prog 9 #[.pointer (some ⟨b,0,none⟩)] w fun e w'=>∃ u L,e = .returned u∧OwnP w' w.heap.size u L∧L.map (fun q:P4=>q.2.1) = ps.map (fun p=>Value.string p.bd)∧Below w.heap.size w w':=by
 have HB:=Box.mk h
 have c1:=h.c1
 have hcap:=h.cap
 have hplen:=h.xl.len
 clear h
 go_enter Tryz.func9,Tryz.ntmps9
 go_wp2
 go_loopw [3,11] (fun x i wr=>∃ (j:Nat) (L:List P4),j ≤ ps.length∧i = .int .i64 j∧L.length ≤ j∧Box (OwnP wr w.heap.size x L)∧Box (L.map (fun q:P4=>q.2.1) = (ps.take j).map (fun p=>Value.string p.bd))∧Below w.heap.size w wr) (fun _ i _=>ps.length - (intOf i).toNat)
 case atStart=>exact ⟨0,[],Nat.zero_le _,rfl,Nat.le_refl _,⟨OwnP.nil _ _⟩,⟨rfl⟩,Below.refl _ _⟩
 case round =>
  obtain ⟨j,L,hj,rfl,hLj,HO,HV,hb⟩:=hrel
  have hsz:=hb.size
  by_cases hlt:j < ps.length
  ·have HBr:=Box.mk (HB.out.below hb)
   obtain ⟨g,off,e1,hx⟩:=HBr.out.xl.at_ j hlt
   subst e1
   have HXS:=Box.mk (HBr.out.xl.sm ps[j] (List.getElem_mem hlt))
   have HV2:Box ((ps.take (j+1)).map (fun p=>Value.string p.bd) = (ps.take j).map (fun p=>Value.string p.bd)++[Value.string ps[j].bd]):=⟨by rw [List.take_add_one,List.getElem?_eq_getElem hlt,List.map_append]; rfl⟩
   generalize ps[j] = p at hx HXS HV2
   have hbP:Below wr.heap.size wr (wr.alloc (xobj p)):=(Below.refl _ _).alloc (Nat.le_refl _) _
   have hgP:=heap_newN wr (xobj p)
   have HFl:=Box.mk (HXS.out.fl.below hbP (Nat.le_refl _))
   have HTi:=Box.mk HXS.out.hs.half.tiny
   have HOA:Box (OwnP (wr.alloc (xobj p)) w.heap.size u3 L):=⟨World.ownsRow.alloc HO.out _⟩
   obtain ⟨AH,capH,hvH,-,-⟩:=_root_.id HXS.out.fl
   obtain ⟨hd,fs,bd,id,⟨a0,a1,a2,a3,a4,a5,a6,a7⟩⟩:=p
   simp only at hvH
   subst hvH
   obtain ⟨f0,f1,f2,f3,f4,f5,f6,f7,f8,f9,fa⟩:=hx
   have k1:(0:Int) ≤ (j:Int):=by omega
   have k2:(j:Int) < (ps.length:Int):=by omega
   unfold xobj at hbP hgP HFl HOA
   simp only at hbP hgP HFl HOA HTi HV2 f0 f1 f2 f3 f4 f5 f6 f7 f8 f9 fa
   have HR3:Box (∀ x,wr.heap.size ≤ x → u3.ownBlock ≠ some x):=⟨fun x hx e=>by have:=(World.ownsRow.lt HO.out x e).2; omega⟩
   have HC3:Box (∀ x,u3.ownBlock = some x → w.heap.size ≤ x):=⟨fun x e=>(World.ownsRow.lt HO.out x e).1⟩
   have hbW:=hb.trans (hbP.mono hsz)
   clear HO HXS
   go_wp2_with fail
   obtain ⟨p0,p1,-⟩:=xc_of (p:=⟨.slice AH fs.length capH,fs,bd,id,⟨a0,a1,a2,a3,a4,a5,a6,a7⟩⟩) hgP
   simp only [Nat.zero_add] at p0 p1
   have hszW:wr.heap.size < (wr.alloc (.cells #[.slice AH fs.length capH,.string bd,.string id,.string a0,.bool a1,.string a2,.string a3,.bool a4,.string a5,.bool a6,.string a7] 62)).heap.size:=by simp
   generalize wr.alloc (.cells #[.slice AH fs.length capH,.string bd,.string id,.string a0,.bool a1,.string a2,.string a3,.bool a4,.string a5,.bool a6,.string a7] 62) = W at p0 p1 hgP HFl HOA hbW hbP hszW ⊢
   have hCW:w.heap.size ≤ W.heap.size:=by omega
   have hL1:L.length+1 ≤ 1000000:=by omega
   clear f0 f1 f2 f3 f4 f5 f6 f7 f8 f9 fa hgP hbP
   go_region_held3 (fun w'=>w'.cell? ⟨wr.heap.size,0,none⟩ = some (.slice AH fs.length capH)∧w'.cell? ⟨wr.heap.size,1,none⟩ = some (.string bd)∧Below w.heap.size w w')
    ((go_split_ands; first
     | exact keepT (Below.refl _ _).drew p0 p1 hbW hCW
     | exact keepT hb5 (by assumption) (by assumption) (by assumption) (Below.size (by assumption))
     | exact keepT ((Below.refl _ _).alloc (Nat.le_refl _) _) (by assumption) (by assumption) (by assumption) (Below.size (by assumption))
     | exact keepG hg6 (by assumption) (by assumption) (by assumption) (Below.size (by assumption)) (HR3.out _ (Nat.le_refl _)) HC3.out))
    (first
     | (go_at_call 28; refine (clone_any (.slice AH fs.length capH) fs _ HTi.out (HFl.out.below (by exact (Below.refl W.heap.size W).drew) (Nat.le_refl _))).mono ?_; rintro e w5 ⟨u5,rfl,hO5,hb5⟩; obtain ⟨A5,cp5,rfl,-⟩:=ownF_len hO5)
     | (refine step_appP _ (by rfl) (.tmp 15) (.tmp 22) (by rfl) w.heap.size u3 L (by rfl) (World.ownsRow.alloc (OwnP.belowP HOA.out ((Below.refl W.heap.size W).drew.trans hb5) (Nat.le_refl _)) _) _ _ (.slice A5 fs.length cp5,.string bd,.bool false,.slice none 0 0) (by rfl) (by simp) (by simp) (by simp) (by simp) ⟨rfl,rfl,rfl,rfl⟩ hL1 (by have:=hb5.size; simp at this ⊢; omega) ?_; intro v6 w6 hO6 hg6 hk6)
     | fail)
   have HO7:Box (OwnP w6 w.heap.size v6 (L++[(.slice A5 fs.length cp5,.string bd,.bool false,.slice none 0 0)])):=⟨hO6⟩
   go_split_ands
   clear hO6 hg6 hk6 hO5 hb5 HR3 HC3 HOA HFl HTi
   go_wp2
   go_roundw
   case rel=>exact ⟨j+1,_,by omega,by go_num,by rw [List.length_append]; simp; omega,HO7,⟨by rw [List.map_append,HV.out,HV2.out]; rfl⟩,by assumption⟩
   case measure=>simp [intOf]; omega
  ·have HE:Box (L.map (fun q:P4=>q.2.1) = ps.map (fun p=>Value.string p.bd)):=⟨by rw [HV.out,List.take_of_length_le (by omega)]⟩
   clear HV
   rcases HO.out.shape with ⟨rfl,_⟩ | ⟨g2,cap2,rfl,_⟩
   all_goals
    go_wp2
    go_ret
    exact ⟨_,_,rfl,HO.out,HE.out,hb⟩
end Go.Proofs.YtknhacbfddggpaaGreatDoor
namespace Go.Proofs.YtknhacbfddggpaaGreatDoor
open Go.RowKit Go.Proofs.Px
theorem pv_leaf {w:World} {B:Nat} {u:Value} {M:List Fl} (hO:OwnF w B u M) (hh:Half M) (bb:ByteArray):PV w (fun i=>B ≤ i) 1 (u,.string bb,.bool false,.slice none 0 0) (.mk (M.map fl2) bb.data.toList false []):=
 ⟨none,0,bb,M,rfl,rfl,rfl,hO.flb,rfl,hh,rfl,Nat.le_refl _,by decide,fun k hk=>absurd hk (by simp)⟩
theorem pv_whole {w:World} {B d:Nat} {u v:Value} {M:List Fl} {L:List P4} {ps:List PT} (hO:OwnF w B u M) (hh:Half M) (hP:OwnP w B v L) (hV:PVL w (fun i=>B ≤ i) d L ps) (hl:L.length ≤ 100001) (bb:ByteArray) (m:Bool):PV w (fun i=>B ≤ i) (d+1) (u,.string bb,.bool m,v) (.mk (M.map fl2) bb.data.toList m ps):=by
 obtain ⟨A,cap,rfl,hc,hpc⟩:=hP.pc
 refine ⟨A,cap,bb,M,rfl,rfl,by rw [← hV.1],hO.flb,rfl,hh,rfl,by rw [← hV.1]; exact hc,by rw [← hV.1]; exact hl,fun k hk=>?_⟩
 have hk':k < L.length:=by rw [hV.1]; exact hk
 refine ⟨L[k],PC.mono (hpc k hk') (fun i _ hi=>?_),hV.2 k hk' hk⟩
 exact (World.ownsRow.lt hP i hi.symm).1
end Go.Proofs.YtknhacbfddggpaaGreatDoor
namespace Go.Proofs.YtknhacbfddggpaaGreatDoor
open Go.RowKit Go.Proofs.Px
def BK (w:World) (b:Nat) (hv v:Value) (r:Int):Prop:=w.heap[b]? = some (.cells #[hv,v,.int .i64 r] 58 (0,0))
theorem BK.cells {w:World} {b:Nat} {hv v:Value} {r:Int} (h:BK w b hv v r):w.cell? ⟨b,0,none⟩ = some hv∧w.cell? ⟨b,1,none⟩ = some v∧w.cell? ⟨b,2,none⟩ = some (.int .i64 r)∧(∀ i,w.frozen? ⟨b,i,none⟩ = false)∧b < w.heap.size:=by
 have h':w.heap[b]? = _:=h
 refine ⟨by simp [World.cell?,h'],by simp [World.cell?,h'],by simp [World.cell?,h'],fun i=>by simp [World.frozen?,h'],(Array.getElem?_eq_some_iff.1 h').1⟩
theorem BK.setP {w:World} {b:Nat} {hv v:Value} {r:Int} (h:BK w b hv v r) (u:Value):BK (w.setCell ⟨b,1,none⟩ u) b hv u r:=by
 unfold BK
 rw [setCell_eq_setRow w b 1 _ _ _ _ h]
 exact setRow_heap w b _ _ _ _ h
theorem BK.setR {w:World} {b:Nat} {hv v:Value} {r:Int} (h:BK w b hv v r) (k:Int):BK (w.setCell ⟨b,2,none⟩ (.int .i64 k)) b hv v k:=by
 unfold BK
 rw [setCell_eq_setRow w b 2 _ _ _ _ h]
 exact setRow_heap w b _ _ _ _ h
theorem BK.gr {w w':World} {b:Nat} {hv v:Value} {r:Int} {o:Option Nat} (h:BK w b hv v r) (hg:w.grownBy w' o) (ho:some b ≠ o):BK w' b hv v r:=(hg.block b h.cells.2.2.2.2 ho).trans h
theorem gr_more {w a c:World} {b:Nat} {r:Option Nat} (h:w.grownBy a (some b)) (k:a.grownBy c r) (hr:∀ k,r = some k → k = b ∨ w.heap.size ≤ k):w.grownBy c (some b):=
 ⟨k.os.trans h.os,k.tape.trans h.tape,k.output.trans h.output,Nat.le_trans h.size k.size,fun i hi hb=>(k.block i (Nat.lt_of_lt_of_le hi h.size) (fun e=>by
  rcases hr i e.symm with rfl | hle
  ·exact hb rfl
  ·omega)).trans (h.block i hi hb)⟩
theorem gr_cell {w w':World} {r:Option Nat} (hg:w.grownBy w' r) {p:Addr} {u:Value} (h:w.cell? p = some u) (hr:r ≠ some p.block):w'.cell? p = some u:=
 (World.cell?_of_block (hg.block p.block (World.block_lt_of_cell? w _ h) (fun e=>hr e.symm))).trans h
theorem hd_of (lh:List Fl) (L:List PB) (h:lh.map fl2 = L) (h1:L.length ≤ 20000) (h2:∀ f ∈ L,f.1.length ≤ 20000∧f.2.length ≤ 20000):Hd lh:=by
 subst h
 rw [List.length_map] at h1
 refine ⟨by omega,fun f hf=>?_⟩
 have h3:=h2 (fl2 f) (List.mem_map_of_mem hf)
 have e1:(fl2 f).1.length = f.1.size:=size_list f.1
 have e2:(fl2 f).2.length = f.2.size:=size_list f.2
 omega
theorem pv_part {w:World} {S:Nat → Prop} {d:Nat} {v:P4} {L:List PB} {b:List UInt8} {many:Bool} {ps:List PT} {A:Option Addr} {cap:Nat} (h:PV w S (d+1+1) v (.mk L b many ps)) (hd:HdT (d+1+1) (.mk L b many ps)) (hA:v.2.2.2 = .slice A ps.length cap) (k:Nat) (hk:k < ps.length) :
  ∃ g off A1 c1 bb m A2 n2 c2 lh,A = some ⟨g,off,none⟩∧w.cell? ⟨g,off+k * 4,none⟩ = some (.slice A1 (List.length lh) c1)∧w.cell? ⟨g,off+k * 4+1,none⟩ = some (.string bb)∧w.cell? ⟨g,off+k * 4+2,none⟩ = some (.bool m)∧w.cell? ⟨g,off+k * 4+3,none⟩ = some (.slice A2 n2 c2)∧FL w (.slice A1 (List.length lh) c1) lh∧Hd lh∧bb.size ≤ 20000∧∀ base,pieceB base ps[k] = ⟨lh.map fl2,bb.data.toList,idOfB (saidB (lh.map fl2) ciN),placeB base (lh.map fl2)⟩:=by
 obtain ⟨A0,cap0,bb0,lh0,h1,h2,h3,h4,h5,h6,h7,h9,h10,h11⟩:=h
 rw [hA] at h3
 simp only [Value.slice.injEq] at h3
 obtain ⟨rfl,-,rfl⟩:=h3
 obtain ⟨q,hc,hq⟩:=h11 k hk
 obtain ⟨g,off,e,_,c0,c1,c2,c3⟩:=hc
 obtain ⟨_,_,_,_,hall⟩:=hd
 have hdk:=hall ps[k] (List.getElem_mem hk)
 cases hp:ps[k] with
 | mk L' b' m' ps' =>
  rw [hp] at hq hdk
  obtain ⟨A',cap',bb',lh',g1,g2,g3,g4,g5,g6,g7,_⟩:=hq
  obtain ⟨d1,d2,d3,d4,_⟩:=hdk
  have hF:=g4.fl
  obtain ⟨A1,cp1,g8,_⟩:=g4
  rw [g8] at c0 hF
  rw [g1] at c1
  rw [g2] at c2
  rw [g3] at c3
  refine ⟨g,off,A1,cp1,bb',m',A',ps'.length,cap',lh',e,c0,c1,c2,c3,hF,hd_of lh' L' g5 d1 d2,?_,fun base=>?_⟩
  ·have e2:=size_list bb'
   rw [g7] at e2
   omega
  ·rw [pieceB,g5,g7]
def OPost (O:Except Nat BB) (e:Ending) (w':World):Prop:=
 match O with
 | .error c=>e = .returned (.tuple #[.pointer none,.iface 30 (.int .i64 c)])
 | .ok bb=>∃ (b:Nat) (hv:Value) (hl:List Fl) (A:Option Addr) (cap:Nat) (ps:List XP) (root:Nat),e = .returned (.tuple #[.pointer (some ⟨b,0,none⟩),.nilIface])∧BN w' b hv hl A cap ps root∧bb = ⟨hl.map fl2,ps.map XP.bp,root⟩
abbrev zAV:AV:=⟨⟨#[]⟩,false,⟨#[]⟩,⟨#[]⟩,false,⟨#[]⟩,false,⟨#[]⟩⟩
end Go.Proofs.YtknhacbfddggpaaGreatDoor
namespace Go.Proofs.YtknhacbfddggpaaGreatDoor
open Go
section
variable {P:Program} {ops:Array Oper} {Q:Exit → Act → World → Prop} {md:Region.Mode} {S:World → Prop} {k:Nat}
def wpAnyU (P:Program) (md:Region.Mode) (ops:Array Oper) (Q:Exit → Act → World → Prop) (S:World → Prop) (k:Nat):Nat → Array Bool → Act → World → Prop
 | 0,listed,a,w=>Region.ready md ops listed = []∧Q .normal a w
 | fuel+1,listed,a,w=>(Region.ready md ops listed = [] → Q .normal a w)∧∀ i ∈ Region.ready md ops listed,wpOp P ops Q i (fun a' w'=>(i ≠ k → S w')∧wpAnyU P md ops Q S k fuel (listed.setIfInBounds i true) a' w') a w
theorem any_of_until:∀ (fuel:Nat) (listed:Array Bool) (a:Act) (w:World),wpAnyU P md ops Q S k fuel listed a w → wpAny P md ops Q fuel listed a w
 | 0,_,_,_,h=>h
 | fuel+1,_,_,_,h=>⟨h.1,fun i hi=>wpOp_mono (fun a' w' h'=>any_of_until fuel _ a' w' h'.2) (h.2 i hi)⟩
def waits (md:Region.Mode) (ops:Array Oper) (k i:Nat):Bool:=match ops[k]? with
 | some o=>o.after.any fun e=>Region.binds md e && e.on == i
 | none=>true
theorem waits_not {i:Nat} (hw:waits md ops k i = true) {listed:Array Bool} (hi:i ∈ Region.ready md ops listed) (hk:k ∈ Region.ready md ops listed):False:=by
 obtain ⟨_,ok,hok,hall⟩:=mem_ready.1 hk
 unfold waits at hw
 rw [hok] at hw
 simp only [Array.any_eq_true,Bool.and_eq_true,beq_iff_eq] at hw
 obtain ⟨n,hn,hb,he⟩:=hw
 have h1:=hall ok.after[n] (Array.getElem_mem hn) hb
 have h0:=(mem_ready.1 hi).1
 rw [he] at h1
 rcases Nat.lt_or_ge i listed.size with h' | h'
 ·simp [h'] at h0 h1; rw [h0] at h1; cases h1
 ·simp [Array.getElem?_eq_none h'] at h1
theorem until_first {i:Nat} {oi:Oper} {v:Value} (hi:ops[i]? = some oi) (hsel:∀ (j:Nat) (o:Oper) cs b,ops[j]? = some o → o.op ≠ .select cs b)
  (hQ:∀ c a w,Q (.panic c) (a.put oi.dst v) w → Q (.panic c) a w) (hw:waits md ops k i = true) :
  ∀ (fuel:Nat) (listed:Array Bool) (a:Act) (w:World),
   (∀ j oj,ops[j]? = some oj → j ≠ i → listed.getD j true = false → (∀ e ∈ oj.after,Region.binds md e = true → e.on ≠ i) → oi.apart ops oj = true) →
   i ∈ Region.ready md ops listed → YieldsIf P ops S oi v a → S w →
   wpAnyU P md ops Q S k fuel (listed.setIfInBounds i true) (a.put oi.dst v) w → wpAnyU P md ops Q S k (fuel+1) listed a w:=by
 intro fuel
 induction fuel with
 | zero =>
  intro listed a w _ hr hy hS H
  refine ⟨fun h=>(by rw [h] at hr; cases hr),fun j hj=>?_⟩
  by_cases hji:j = i
  ·subst hji; exact hy.wpOp hi hS ⟨fun _=>hS,H⟩
  ·have:=ready_mono hj hji
   rw [H.1] at this
   cases this
 | succ fuel ih =>
  intro listed a w hfree hr hy hS H
  refine ⟨fun h=>(by rw [h] at hr; cases hr),fun j hj=>?_⟩
  by_cases hji:j = i
  ·subst hji; exact hy.wpOp hi hS ⟨fun _=>hS,H⟩
  ·have hjk:j ≠ k:=fun e=>waits_not hw hr (e ▸ hj)
   have h1:=H.2 j (ready_mono hj hji)
   obtain ⟨hjun,oj,hoj,hall⟩:=mem_ready.1 hj
   have hnot:∀ e ∈ oj.after,Region.binds md e = true → e.on ≠ i:=fun e he hb heq=>by
    have h1:=hall e he hb
    have h0:=(mem_ready.1 hr).1
    rw [heq] at h1
    rcases Nat.lt_or_ge i listed.size with h' | h'
    ·simp [h'] at h0 h1; rw [h0] at h1; cases h1
    ·simp [Array.getElem?_eq_none h'] at h1
   have h2:=wpOp_putIf hoj (hfree j oj hoj hji hjun hnot) (fun cs b=>hsel i oi cs b hi) (fun cs b=>hsel j oj cs b hoj) hQ hy h1
   have hfree':∀ m om,ops[m]? = some om → m ≠ i → (listed.setIfInBounds j true).getD m true = false →
     (∀ e ∈ om.after,Region.binds md e = true → e.on ≠ i) → oi.apart ops om = true:=fun m om hm hmi hun hno=>by
    refine hfree m om hm hmi ?_ hno
    by_cases hjm:j = m
    ·subst hjm; exact hjun
    ·rw [getD_set_ne true hjm] at hun; exact hun
   refine wpOp_mono (fun a' w' h3=>⟨fun _=>h3.2.1 hjk,ih (listed.setIfInBounds j true) a' w' hfree' (ready_mono hr (Ne.symm hji)) h3.1 (h3.2.1 hjk) ?_⟩) h2
   rw [Array.setIfInBounds_comm _ _ hji]
   exact h3.2.2
theorem until_take {i:Nat} {oi:Oper} {v:Value} {fuel:Nat} {listed:Array Bool} {a:Act} {w:World} (hi:ops[i]? = some oi)
  (hs:Region.noSelect ops = true) (hf:Region.free md ops listed i = true) (hr:(Region.ready md ops listed).contains i = true) (hw:waits md ops k i = true)
  (hQ:∀ c a w,Q (.panic c) (a.put oi.dst v) w → Q (.panic c) a w) (hy:YieldsIf P ops S oi v a) (hS:S w)
  (h:wpAnyU P md ops Q S k fuel (listed.setIfInBounds i true) (a.put oi.dst v) w):wpAnyU P md ops Q S k (fuel+1) listed a w:=
 until_first hi (Region.noSelect_spec hs) hQ hw fuel listed a w (Region.free_spec hi hf) (by simpa using hr) hy hS h
theorem until_at {i n:Nat} {oi:Oper} {fuel:Nat} {listed:Array Bool} {a:Act} {w:World} (v:Value) (hi:ops[i]? = some oi) (hd:oi.dst = some n)
  (hs:Region.noSelect ops = true) (hf:Region.free md ops listed i = true) (hr:(Region.ready md ops listed).contains i = true) (hw:waits md ops k i = true)
  (hQ:∀ c a w,Q (.panic c) (a.put oi.dst v) w → Q (.panic c) a w) (hgd:oi.guard = none) (hy:∀ w',S w' → (execOp a.eval oi).run P w' = .ok (.value v) w') (hS:S w)
  (h:wpAnyU P md ops Q S k fuel (listed.setIfInBounds i true) (a.put (some n) v) w):wpAnyU P md ops Q S k (fuel+1) listed a w:=
 until_take hi hs hf hr hw hQ (Or.inl ⟨by simp [Region.wanted,hgd],hy⟩) hS (by rw [hd]; exact h)
theorem until_one {i:Nat} {o:Oper} {fuel:Nat} {listed:Array Bool} {a:Act} {w:World} (hr:Region.ready md ops listed = [i]) (ho:ops[i]? = some o)
  (h:∀ K':Act → World → Prop,Shut (∀ a w,(i ≠ k → S w) → wpAnyU P md ops Q S k fuel (listed.setIfInBounds i true) a w → K' a w) → if Region.wanted o (yielded ops a.tmps) = true then Oper.wp P o a w K' Q else K' (a.put o.dst undef) w):wpAnyU P md ops Q S k (fuel+1) listed a w:=by
 refine ⟨fun h0=>(by rw [hr] at h0; cases h0),fun j hj=>?_⟩
 rw [hr] at hj
 obtain rfl:=List.mem_singleton.1 hj
 exact wpOp_step ho (fun K' hK=>h K' (fun a w hS hW=>hK a w ⟨hS,hW⟩))
theorem until_done {listed:Array Bool} {a:Act} {w:World} (hr:Region.ready md ops listed = []) (h:Q .normal a w):∀ fuel,wpAnyU P md ops Q S k fuel listed a w
 | 0=>⟨hr,h⟩
 | _+1=>⟨fun _=>h,by rw [hr]; simp⟩
theorem region_until (k:Nat) (S:World → Prop) {id:Nat} {a:Act} {w:World} (hm:P.follows .mixedOrders = true)
  (h:wpAnyU P .any ops Q S k ops.size (Array.replicate ops.size false) a w.drew):(Code.region id ops true).wp P Q a w:=
 wp_region_any hm (any_of_until _ _ _ _ h)
end
end Go.Proofs.YtknhacbfddggpaaGreatDoor
namespace Go.Proofs.YtknhacbfddggpaaGreatDoor
open Go.RowKit Go.Proofs.Px
theorem Blk.gr {w w':World} {b:Nat} {r:Option Nat} {v0 v1 v2 v3 v4 v5 v6 v7:Value} (h:Blk w b v0 v1 v2 v3 v4 v5 v6 v7) (hg:w.grownBy w' r) (hr:r ≠ some b):Blk w' b v0 v1 v2 v3 v4 v5 v6 v7:=
 ⟨gr_cell hg h.c0 hr,gr_cell hg h.c1 hr,gr_cell hg h.c2 hr,gr_cell hg h.c3 hr,gr_cell hg h.c4 hr,gr_cell hg h.c5 hr,gr_cell hg h.c6 hr,gr_cell hg h.c7 hr,fun i=>(World.frozen?_of_block (hg.block b (World.block_lt_of_cell? w _ h.c0) (fun e=>hr e.symm))).trans (h.fz i)⟩
theorem OwnX.kept {w w':World} {B b:Nat} {v:Value} {L:List XP} (h:OwnX w B v L) (hg:w.grownBy w' (some b)) (hb:b < B):OwnX w' B v L:=by
 refine World.ownsRow.kept h hg (.inr fun e=>?_)
 have:=(World.ownsRow.lt h b e).1
 omega
theorem OwnX.len {w:World} {B:Nat} {v:Value} {L:List XP} (h:OwnX w B v L):∃ A cap,v = .slice A L.length cap∧L.length ≤ cap:=by
 rcases h.shape with ⟨rfl,rfl⟩ | ⟨g,cap,rfl,_,_,hc⟩
 ·exact ⟨none,0,rfl,Nat.le_refl _⟩
 ·exact ⟨_,_,rfl,hc⟩
theorem xl_own {w:World} {B cap:Nat} {A:Option Addr} {L:List XP} (h:OwnX w B (.slice A L.length cap) L) (hs:∀ p ∈ L,XS w p) (hl:L.length ≤ 60):XL w A L:=by
 refine ⟨fun k hk=>?_,hs,hl⟩
 rcases h.shape with ⟨_,rfl⟩ | ⟨g,cap2,e,_⟩
 ·exact absurd hk (by simp)
 ·simp only [Value.slice.injEq] at e
  obtain ⟨rfl,-,rfl⟩:=e
  exact ⟨g,0,rfl,OwnX.xc h k hk⟩
structure OSt (w5:World) (b q a:Nat) (vb u0 u1 v0 v1 v2 v3 v4 v5 v6 v7:Value) (w':World):Prop where
 q0:w'.cell? ⟨q,0,none⟩ = some u0
 q1:w'.cell? ⟨q,1,none⟩ = some u1
 cb:w'.cell? ⟨b,1,none⟩ = some vb
 c0:w'.cell? ⟨a,0,none⟩ = some v0
 c1:w'.cell? ⟨a,1,none⟩ = some v1
 c2:w'.cell? ⟨a,2,none⟩ = some v2
 c3:w'.cell? ⟨a,3,none⟩ = some v3
 c4:w'.cell? ⟨a,4,none⟩ = some v4
 c5:w'.cell? ⟨a,5,none⟩ = some v5
 c6:w'.cell? ⟨a,6,none⟩ = some v6
 c7:w'.cell? ⟨a,7,none⟩ = some v7
 gr:w5.grownBy w' (some b)
theorem OSt.keep {w5 W w':World} {b q a:Nat} {r:Option Nat} {vb u0 u1 v0 v1 v2 v3 v4 v5 v6 v7:Value} (h:OSt w5 b q a vb u0 u1 v0 v1 v2 v3 v4 v5 v6 v7 W) (hg:W.grownBy w' r) (hr:∀ x,r = some x → x ≠ b∧x ≠ q∧x ≠ a∧w5.heap.size ≤ x):OSt w5 b q a vb u0 u1 v0 v1 v2 v3 v4 v5 v6 v7 w':=by
 have hb:r ≠ some b:=fun e=>(hr _ e).1 rfl
 have hq:r ≠ some q:=fun e=>(hr _ e).2.1 rfl
 have ha:r ≠ some a:=fun e=>(hr _ e).2.2.1 rfl
 exact ⟨gr_cell hg h.q0 hq,gr_cell hg h.q1 hq,gr_cell hg h.cb hb,gr_cell hg h.c0 ha,gr_cell hg h.c1 ha,gr_cell hg h.c2 ha,gr_cell hg h.c3 ha,gr_cell hg h.c4 ha,gr_cell hg h.c5 ha,gr_cell hg h.c6 ha,gr_cell hg h.c7 ha,gr_more h.gr hg (fun x e=>.inr (hr x e).2.2.2)⟩
set_option maxHeartbeats 600000 in
set_option maxRecDepth 100000 in
theorem bopen_any (s:ByteArray) (w:World) (hs:s.size ≤ 1000000) (hG:Glob w) :
  Calls Tryz.prog 5 #[.string s] w fun e w'=>OPost (openE s.data.toList) e w'∧Below w.heap.size w w':=by
 have HRd:=Box.mk (pReadTop_any s w hs hG)
 have hmx:=hG.mx
 have HMx:=Box.mk hmx
 have hm0:=hmx.1
 obtain ⟨O,HO⟩:∃ O,Box (openE s.data.toList = O):=⟨_,⟨rfl⟩⟩
 rw [HO.out]
 clear hG hs hmx
 cases hR:readTop s.data.toList with
 | error c =>
  have HO2:Box (O = .error c):=⟨by rw [← HO.out]; unfold openE; rw [hR]⟩
  rw [hR] at HRd
  clear HO hR HMx
  go_enter Tryz.func5,Tryz.ntmps5
  go_wp2_with fail
  refine HRd.out.mono ?_
  rintro e w1 ⟨he,hb1⟩
  have he:e = .returned (.tuple #[zeroP,.iface 30 (.int .i64 c)]):=he
  subst he
  have hbb:=hb1.trans ((below_oneP w1 zeroO).mono hb1.size)
  clear HRd
  go_wp2
  go_ret2
  exact ⟨by rw [HO2.out]; rfl,hbb⟩
 | ok p =>
  have HdP:=Box.mk (top_hd _ _ hR)
  have HO1:Box (openF p = O):=⟨by rw [← HO.out]; unfold openE; rw [hR]⟩
  rw [hR] at HRd
  obtain ⟨L,x,m0,ps⟩:=p
  have hpl:ps.length ≤ 40:=HdP.out.2.2.2.1
  clear HO hR
  go_enter Tryz.func5,Tryz.ntmps5
  go_wp2_with fail
  refine HRd.out.mono ?_
  rintro e w1 ⟨⟨v,rfl,hPV⟩,hb1⟩
  have HPV:=Box.mk hPV
  obtain ⟨A2,c2,bb,lh,e1,e2,e3,e4,e5,-,-,-,-,-⟩:=hPV
  have hFL:=e4.fl
  obtain ⟨A1,c1,e6,-,-⟩:=e4
  obtain ⟨v1,v2,v3,v4⟩:=v
  simp only at e1 e2 e3 e6 hFL
  subst e1 e2 e3 e6
  have HHd:=Box.mk (hd_of lh L e5 HdP.out.1 HdP.out.2.1)
  subst e5
  unfold P4.v
  simp only
  have hbW1:=below_oneP w1 (obj4 (.slice A1 lh.length c1) (.string bb) (.bool m0) (.slice A2 ps.length c2))
  have hgW1:=heap_oneP w1 (obj4 (.slice A1 lh.length c1) (.string bb) (.bool m0) (.slice A2 ps.length c2))
  obtain ⟨d0,d1,d2,d3,df⟩:=b4_of hgW1
  have hb01:=hb1.trans (hbW1.mono hb1.size)
  have HM1:=Box.mk (HMx.out.below hb01 hm0)
  have HF1:=Box.mk (hFL.below hbW1 (Nat.le_refl _))
  have HFL:=Box.mk hFL
  have HKd:=Box.mk (kindOf_any _ lh _ HHd.out HF1.out HM1.out)
  clear HRd hFL HF1
  go_wp2_with fail
  refine HKd.out.mono ?_
  rintro e w2 ⟨⟨m,vq,Pm,rfl,hmn,hPm,hOQ,hHdP,hms⟩,hb2⟩
  have hgW2:=(hb2.block w1.heap.size (by simp)).trans hgW1
  have hb02:=hb01.trans (hb2.mono hb01.size)
  have hb12:=hbW1.trans (hb2.mono hbW1.size)
  have HOQ:=Box.mk hOQ
  have HHP:=Box.mk hHdP
  have HPm:=Box.mk hPm
  obtain ⟨Aq,cq,hvq⟩:∃ Aq cq,vq = .slice Aq Pm.length cq:=by
   obtain ⟨Aq,cq,e,_⟩:=hOQ.fl
   exact ⟨Aq,cq,e⟩
  subst hvq
  clear HKd d0 d1 d2 d3 df hgW1 HM1 hOQ hHdP hPm hms hb2 hbW1
  obtain ⟨d0,d1,d2,d3,df⟩:=b4_of hgW2
  by_cases he:m.toList = [109,117,108,116,105,112,97,114,116,47,114,101,108,97,116,101,100]
  case neg =>
   have hn:(m.toList == [109,117,108,116,105,112,97,114,116,47,114,101,108,97,116,101,100]) = false:=beq_eq_false_iff_ne.2 he
   have HO2:Box (O = .error 6):=⟨by
    rw [← HO1.out,openF,if_pos]
    rw [← hmn,← ByteArray.toList_eq]
    exact he⟩
   clear HO1 hmn he
   go_wp2
   go_ret2
   exact ⟨by rw [HO2.out]; rfl,hb02⟩
  have hrel:(kindB (lh.map fl2)).1 = relN:=by
   rw [← hmn,← ByteArray.toList_eq,he]
   rfl
  clear hmn
  by_cases h0:ps.length = 0
  ·have hz:((ps.length:Int) == 0) = true:=by rw [h0]; rfl
   have HO2:Box (O = .error 8):=⟨by
    rw [← HO1.out,openF,if_neg (fun h=>h hrel),if_pos (List.eq_nil_of_length_eq_zero h0)]⟩
   clear HO1 hrel h0
   go_wp2
   go_ret2
   exact ⟨by rw [HO2.out]; rfl,hb02⟩
  have hz:((ps.length:Int) == 0) = false:=beq_eq_false_iff_ne.2 (by omega)
  have HPV2:=Box.mk (PV.abv (abv_below hb12) 4 _ _ HPV.out)
  have HAny:Box (Calls Tryz.prog 16 #[.slice A2 ps.length c2,.func (.func 17) #[] #[]] w2 fun e w'=>e = .returned (.bool (ps.any manyB))∧Below w2.heap.size w2 w'):=⟨by
   obtain ⟨A',c',k1,k2,k3⟩:=pv_row HPV2.out
   simp only [Value.slice.injEq] at k1
   obtain ⟨rfl,-,rfl⟩:=k1
   have:=anyMany A2 c2 (ps.map manyB) w2 k3 (by rw [List.length_map]; omega)
   rw [List.length_map,List.any_map] at this
   exact this⟩
  go_wp2_with fail
  refine HAny.out.mono ?_
  rintro e w3 ⟨rfl,hb3⟩
  clear HAny
  cases hany:ps.any manyB
  case true =>
   have HO2:Box (O = .error 13):=⟨by
    rw [← HO1.out,openF,if_neg (fun h=>h hrel),if_neg (fun h=>h0 (by rw [h]; rfl)),if_pos hany]⟩
   have hb03:=hb02.trans (hb3.mono hb02.size)
   clear HO1 hrel h0 hany
   go_wp2
   go_ret2
   exact ⟨by rw [HO2.out]; rfl,hb03⟩
  have HO2:Box (O = .ok ⟨lh.map fl2,ps.map (pieceB (placeB zeroA (lh.map fl2))),rootB (ps.map (pieceB (placeB zeroA (lh.map fl2)))) (startB (Pm.map pb2))⟩):=⟨by
   rw [← HO1.out,openF,if_neg (fun h=>h hrel),if_neg (fun h=>h0 (by rw [h]; rfl)),if_neg (by rw [hany]; decide),HPm.out]⟩
  have hb03:=hb02.trans (hb3.mono hb02.size)
  have hb13:=hb12.trans (hb3.mono hb12.size)
  have HPV3:=Box.mk (PV.abv (abv_below hb3) 4 _ _ HPV2.out)
  have HFL3:=Box.mk (HFL.out.below hb13 (Nat.le_refl _))
  have HFQ3:=Box.mk (HOQ.out.fl.below hb3 (Nat.le_refl _))
  have hgW3:=(hb3.block w1.heap.size (Array.getElem?_eq_some_iff.1 hgW2).1).trans hgW2
  clear HO1 HPm hrel hany hz d0 d1 d2 d3 df hgW2 HPV HPV2 HFL HOQ hb12 hb02 hb01 hb3 he
  obtain ⟨d0,d1,d2,d3,df⟩:=b4_of hgW3
  have hbW4:Below w3.heap.size w3 (w3.alloc (.cells #[.slice A1 lh.length c1,.slice none 0 0,.int .i64 0] 58)):=(Below.refl _ _).alloc (Nat.le_refl _) _
  have hgB4:=heap_newN w3 (.cells #[.slice A1 lh.length c1,.slice none 0 0,.int .i64 0] 58)
  have hgW4:=heap_in hbW4 hgW3
  have hb04:=hb03.trans (hbW4.mono hb03.size)
  have HM4:=Box.mk (HMx.out.below hb04 hm0)
  have HPl:=Box.mk (placeOf_any (.slice A1 lh.length c1) lh zAV _ HHd.out (HFL3.out.below hbW4 (Nat.le_refl _)) HM4.out 60000 ⟨by decide,by decide,by decide,by decide,by decide⟩ (by omega) (by omega))
  obtain ⟨f0,f1,f2,f3,ff⟩:=b4_of hgW4
  go_wp2_with fail
  refine HPl.out.mono ?_
  rintro e w4 ⟨rfl,hSm,hb4⟩
  have hBs:=ab_of (placeB zAV.ab (lh.map fl2))
  generalize AV.of (placeB zAV.ab (lh.map fl2)) = B at hSm hBs ⊢
  obtain ⟨x0,x1,x2,x3,x4,x5,x6,x7⟩:=B
  have HBs:Box (AV.ab ⟨x0,x1,x2,x3,x4,x5,x6,x7⟩ = placeB zeroA (lh.map fl2)):=⟨hBs⟩
  have HSm:=Box.mk hSm
  have hbW5:Below w4.heap.size w4 (w4.alloc (obj8 x0 x1 x2 x3 x4 x5 x6 x7)):=(Below.refl _ _).alloc (Nat.le_refl _) _
  have hgA5:=heap_newN w4 (obj8 x0 x1 x2 x3 x4 x5 x6 x7)
  have hgB5:=heap_in hbW5 (heap_in hb4 hgB4)
  have hgW5:=heap_in hbW5 (heap_in hb4 hgW4)
  have hb34:Below w3.heap.size w3 w4:=hbW4.trans (hb4.mono hbW4.size)
  have hb35:=hb34.trans (hbW5.mono hb34.size)
  have hb05:=hb03.trans (hb35.mono hb03.size)
  have hba:w3.heap.size < w4.heap.size:=(Array.getElem?_eq_some_iff.1 (heap_in hb4 hgB4)).1
  have haz:w4.heap.size < (w4.alloc (obj8 x0 x1 x2 x3 x4 x5 x6 x7)).heap.size:=by simp
  clear d0 d1 d2 d3 df f0 f1 f2 f3 ff hgW4 hgB4 hBs hSm HPl HM4 hb4 hbW4 hbW5 hb34 hgW3 hb04
  obtain ⟨d0,d1,d2,d3,df⟩:=b4_of hgW5
  go_wp2
  have HA5:=Box.mk (blk_of hgA5)
  have HB5:Box (BK _ w3.heap.size (.slice A1 lh.length c1) (.slice none 0 0) 0):=⟨hgB5⟩
  generalize w4.alloc (obj8 x0 x1 x2 x3 x4 x5 x6 x7) = w5 at *
  clear d0 d1 d2 d3 df hgW5 hgA5 hgB5
  have hb5:w3.heap.size < w5.heap.size:=by omega
  go_loopw [49] (fun i wr=>∃ (j:Nat) (v:Value) (K:List XP),j ≤ ps.length∧i = .int .i64 j∧K.length = j∧Box (OwnX wr w5.heap.size v K)∧Box (K.map XP.bp = (ps.take j).map (pieceB (placeB zeroA (lh.map fl2))))∧Box (∀ p ∈ K,XS w3 p)∧Box (BK wr w3.heap.size (.slice A1 lh.length c1) v 0)∧w5.grownBy wr (some w3.heap.size)) (fun i _=>ps.length - (intOf i).toNat)
  case atStart=>exact ⟨0,.slice none 0 0,[],Nat.zero_le _,rfl,rfl,⟨OwnX.nil _ _⟩,⟨rfl⟩,⟨fun p hp=>by cases hp⟩,HB5,gr_below (Below.refl _ _) _⟩
  case round =>
   obtain ⟨j,v,K,hj,rfl,hKj,HOx,HV,HXS,HBK,hg⟩:=hrel
   have hb5r:Below w3.heap.size w5 wr:=below_gr hg (Nat.le_refl _) hb5
   have hb3r:=hb35.trans hb5r
   have HKj:=Box.mk hKj
   have hK60:K.length ≤ 60:=by omega
   clear hKj
   by_cases hlt:j < ps.length
   ·obtain ⟨g,off,A6,c6,bk,mk,A7,n7,c7,lk,eA,k0,k1,k2,k3,hFk,hHk,hbk,hpk⟩:=pv_part HPV3.out HdP.out rfl j hlt
    subst eA
    have HV2:Box ((ps.take (j+1)).map (pieceB (placeB zeroA (lh.map fl2))) = (ps.take j).map (pieceB (placeB zeroA (lh.map fl2)))++[⟨lk.map fl2,bk.data.toList,idOfB (saidB (lk.map fl2) ciN),placeB (placeB zeroA (lh.map fl2)) (lk.map fl2)⟩]):=⟨by
     rw [List.take_add_one,List.getElem?_eq_getElem hlt,List.map_append,← hpk]
     rfl⟩
    have hc0:=(hb3r.cell (p:=⟨g,off+j * 4,none⟩) (World.block_lt_of_cell? w3 _ k0)).trans k0
    have hc1:=(hb3r.cell (p:=⟨g,off+j * 4+1,none⟩) (World.block_lt_of_cell? w3 _ k1)).trans k1
    have hc2:=(hb3r.cell (p:=⟨g,off+j * 4+2,none⟩) (World.block_lt_of_cell? w3 _ k2)).trans k2
    have hc3:=(hb3r.cell (p:=⟨g,off+j * 4+3,none⟩) (World.block_lt_of_cell? w3 _ k3)).trans k3
    clear k0 k1 k2 k3 hpk
    have HHk:=Box.mk hHk
    have HFk:=Box.mk hFk
    have HId:Box (∀ w',w5.grownBy w' (some w3.heap.size) → Calls Tryz.prog 19 #[.slice A6 lk.length c6] w' fun e w''=>∃ t:ByteArray,e = .returned (.string t)∧t.data.toList = idOfB (saidB (lk.map fl2) ciN)∧t.size ≤ 60000∧Below w'.heap.size w' w''):=⟨fun w' hg'=>idOf_any _ lk w' hHk (hFk.below (hb35.trans (below_gr hg' (Nat.le_refl _) hb5)) (Nat.le_refl _))⟩
    have HPc:Box (∀ w',w5.grownBy w' (some w3.heap.size) → Calls Tryz.prog 18 #[.slice A6 lk.length c6,.agg #[.string x0,.bool x1,.string x2,.string x3,.bool x4,.string x5,.bool x6,.string x7]] w' fun e w''=>e = .returned (AV.of (placeB (placeB zeroA (lh.map fl2)) (lk.map fl2))).val∧(AV.of (placeB (placeB zeroA (lh.map fl2)) (lk.map fl2))).Small 270000∧Below w'.heap.size w' w''):=⟨fun w' hg'=>by
     have hbw:=hb35.trans (below_gr hg' (Nat.le_refl _) hb5)
     have h1:=placeOf_any (.slice A6 lk.length c6) lk ⟨x0,x1,x2,x3,x4,x5,x6,x7⟩ w' hHk (hFk.below hbw (Nat.le_refl _)) (HMx.out.below (hb03.trans (hbw.mono hb03.size)) hm0) 120001 HSm.out (by omega) (by omega)
     rw [HBs.out] at h1
     refine h1.mono ?_
     rintro e w'' ⟨rfl,h2,h3⟩
     exact ⟨rfl,⟨Nat.le_trans h2.sc (by omega),Nat.le_trans h2.au (by omega),Nat.le_trans h2.pa (by omega),Nat.le_trans h2.qu (by omega),Nat.le_trans h2.fr (by omega)⟩,h3⟩⟩
    have hLs:=ab_of (placeB (placeB zeroA (lh.map fl2)) (lk.map fl2))
    generalize AV.of (placeB (placeB zeroA (lh.map fl2)) (lk.map fl2)) = Z at hLs HPc
    obtain ⟨y0,y1,y2,y3,y4,y5,y6,y7⟩:=Z
    have HLs:=Box.mk hLs
    clear hLs hFk hHk
    obtain ⟨Av,cv,hv,hcv⟩:=HOx.out.len
    subst hv
    have hbW:=below_oneP wr (obj4 (.slice A6 lk.length c6) (.string bk) (.bool mk) (.slice A7 n7 c7))
    obtain ⟨p0,p1,p2,p3,pf⟩:=b4_of (heap_oneP wr (obj4 (.slice A6 lk.length c6) (.string bk) (.bool mk) (.slice A7 n7 c7)))
    have hWg:w5.grownBy (wr.alloc (obj4 (.slice A6 lk.length c6) (.string bk) (.bool mk) (.slice A7 n7 c7))) (some w3.heap.size):=gr_more hg (gr_below hbW none) (by simp)
    have HBW:=Box.mk (HBK.out.gr (gr_below hbW none) (by simp))
    have HOW:Box (OwnX (wr.alloc (obj4 (.slice A6 lk.length c6) (.string bk) (.bool mk) (.slice A7 n7 c7))) w5.heap.size (.slice Av K.length cv) K):=⟨World.ownsRow.alloc HOx.out _⟩
    obtain ⟨a0,a1,a2,a3,a4,a5,a6,a7,-⟩:=(Blk.gr HA5.out hWg (by simp; omega))
    obtain ⟨-,cb1,-,cbf,cbl⟩:=HBW.out.cells
    have HR3:Box (∀ x,wr.heap.size ≤ x → (Value.slice Av K.length cv).ownBlock ≠ some x):=⟨fun x hx e=>by have:=(World.ownsRow.lt HOx.out x e).2; omega⟩
    have HC3:Box (∀ x,(Value.slice Av K.length cv).ownBlock = some x → w5.heap.size ≤ x):=⟨fun x e=>(World.ownsRow.lt HOx.out x e).1⟩
    have k7:(j:Int) < (ps.length:Int):=by omega
    have k8:(0:Int) ≤ (j:Int):=by omega
    have hsr:=hg.size
    clear HOx HBK
    go_wp2_with fail
    have hszW:wr.heap.size < (wr.alloc (obj4 (.slice A6 lk.length c6) (.string bk) (.bool mk) (.slice A7 n7 c7))).heap.size:=by simp
    generalize wr.alloc (obj4 (.slice A6 lk.length c6) (.string bk) (.bool mk) (.slice A7 n7 c7)) = W at p0 p1 p2 p3 pf hWg HBW HOW a0 a1 a2 a3 a4 a5 a6 a7 cb1 cbf cbl hbW hszW ⊢
    have hK1:K.length+1 ≤ 1000000:=by omega
    have nq:w3.heap.size ≠ wr.heap.size:=by omega
    have na:w3.heap.size ≠ w4.heap.size:=by omega
    clear hc0 hc1 hc2 hc3 p2 p3 pf hbW
    refine region_until 21 (OSt w5 w3.heap.size wr.heap.size w4.heap.size (.slice Av K.length cv) (.slice A6 lk.length c6) (.string bk) (.string x0) (.bool x1) (.string x2) (.string x3) (.bool x4) (.string x5) (.bool x6) (.string x7)) (by kernel_rfl) ?_
    have hS:OSt w5 w3.heap.size wr.heap.size w4.heap.size (.slice Av K.length cv) (.slice A6 lk.length c6) (.string bk) (.string x0) (.bool x1) (.string x2) (.string x3) (.bool x4) (.string x5) (.bool x6) (.string x7) W.drew:=⟨p0,p1,cb1,a0,a1,a2,a3,a4,a5,a6,a7,gr_more hWg (gr_below (Below.refl _ _).drew none) (by simp)⟩
    clear p0 p1 cb1 a0 a1 a2 a3 a4 a5 a6 a7
    refine until_at (i:=0) (n:=53) (.pointer (some ⟨w3.heap.size,0,none⟩)) rfl rfl (by kernel_rfl) (by kernel_rfl) (by kernel_rfl) (by kernel_rfl) (fun _ _ _ h=>h) rfl (fun w' hS'=>?_) hS ?_
    ·clear hS' hS
     first | (go_simp; done) | (go_simp; with_reducible rfl)
    simp only [Act.put,List.setIfInBounds_toArray,List.set_cons_zero,List.set_cons_succ]
    refine until_at (i:=1) (n:=54) (.pointer (some ⟨w3.heap.size,0,none⟩)) rfl rfl (by kernel_rfl) (by kernel_rfl) (by kernel_rfl) (by kernel_rfl) (fun _ _ _ h=>h) rfl (fun w' hS'=>?_) hS ?_
    ·clear hS' hS
     first | (go_simp; done) | (go_simp; with_reducible rfl)
    simp only [Act.put,List.setIfInBounds_toArray,List.set_cons_zero,List.set_cons_succ]
    refine until_at (i:=2) (n:=55) (.pointer (some ⟨w3.heap.size,0,none⟩)) rfl rfl (by kernel_rfl) (by kernel_rfl) (by kernel_rfl) (by kernel_rfl) (fun _ _ _ h=>h) rfl (fun w' hS'=>?_) hS ?_
    ·clear hS' hS
     first | (go_simp; done) | (go_simp; with_reducible rfl)
    simp only [Act.put,List.setIfInBounds_toArray,List.set_cons_zero,List.set_cons_succ]
    refine until_at (i:=3) (n:=56) (.pointer (some ⟨w3.heap.size,1,none⟩)) rfl rfl (by kernel_rfl) (by kernel_rfl) (by kernel_rfl) (by kernel_rfl) (fun _ _ _ h=>h) rfl (fun w' hS'=>?_) hS ?_
    ·clear hS' hS
     first | (go_simp; done) | (go_simp; with_reducible rfl)
    simp only [Act.put,List.setIfInBounds_toArray,List.set_cons_zero,List.set_cons_succ]
    refine until_at (i:=4) (n:=57) (.slice Av K.length cv) rfl rfl (by kernel_rfl) (by kernel_rfl) (by kernel_rfl) (by kernel_rfl) (fun _ _ _ h=>h) rfl (fun w' hS'=>?_) hS ?_
    ·have l0:=hS'.cb
     clear hS' hS
     first | (go_simp; done) | (go_simp; with_reducible rfl)
    simp only [Act.put,List.setIfInBounds_toArray,List.set_cons_zero,List.set_cons_succ]
    refine until_at (i:=5) (n:=58) (.pointer (some ⟨wr.heap.size,0,none⟩)) rfl rfl (by kernel_rfl) (by kernel_rfl) (by kernel_rfl) (by kernel_rfl) (fun _ _ _ h=>h) rfl (fun w' hS'=>?_) hS ?_
    ·clear hS' hS
     first | (go_simp; done) | (go_simp; with_reducible rfl)
    simp only [Act.put,List.setIfInBounds_toArray,List.set_cons_zero,List.set_cons_succ]
    refine until_at (i:=6) (n:=59) (.slice A6 lk.length c6) rfl rfl (by kernel_rfl) (by kernel_rfl) (by kernel_rfl) (by kernel_rfl) (fun _ _ _ h=>h) rfl (fun w' hS'=>?_) hS ?_
    ·have l0:=hS'.q0
     clear hS' hS
     first | (go_simp; done) | (go_simp; with_reducible rfl)
    simp only [Act.put,List.setIfInBounds_toArray,List.set_cons_zero,List.set_cons_succ]
    refine until_at (i:=7) (n:=60) (.pointer (some ⟨wr.heap.size,1,none⟩)) rfl rfl (by kernel_rfl) (by kernel_rfl) (by kernel_rfl) (by kernel_rfl) (fun _ _ _ h=>h) rfl (fun w' hS'=>?_) hS ?_
    ·clear hS' hS
     first | (go_simp; done) | (go_simp; with_reducible rfl)
    simp only [Act.put,List.setIfInBounds_toArray,List.set_cons_zero,List.set_cons_succ]
    refine until_at (i:=8) (n:=61) (.string bk) rfl rfl (by kernel_rfl) (by kernel_rfl) (by kernel_rfl) (by kernel_rfl) (fun _ _ _ h=>h) rfl (fun w' hS'=>?_) hS ?_
    ·have l0:=hS'.q1
     clear hS' hS
     first | (go_simp; done) | (go_simp; with_reducible rfl)
    simp only [Act.put,List.setIfInBounds_toArray,List.set_cons_zero,List.set_cons_succ]
    refine until_at (i:=9) (n:=62) (.pointer (some ⟨wr.heap.size,0,none⟩)) rfl rfl (by kernel_rfl) (by kernel_rfl) (by kernel_rfl) (by kernel_rfl) (fun _ _ _ h=>h) rfl (fun w' hS'=>?_) hS ?_
    ·clear hS' hS
     first | (go_simp; done) | (go_simp; with_reducible rfl)
    simp only [Act.put,List.setIfInBounds_toArray,List.set_cons_zero,List.set_cons_succ]
    refine until_at (i:=10) (n:=63) (.slice A6 lk.length c6) rfl rfl (by kernel_rfl) (by kernel_rfl) (by kernel_rfl) (by kernel_rfl) (fun _ _ _ h=>h) rfl (fun w' hS'=>?_) hS ?_
    ·have l0:=hS'.q0
     clear hS' hS
     first | (go_simp; done) | (go_simp; with_reducible rfl)
    simp only [Act.put,List.setIfInBounds_toArray,List.set_cons_zero,List.set_cons_succ]
    refine until_at (i:=12) (n:=65) (.pointer (some ⟨wr.heap.size,0,none⟩)) rfl rfl (by kernel_rfl) (by kernel_rfl) (by kernel_rfl) (by kernel_rfl) (fun _ _ _ h=>h) rfl (fun w' hS'=>?_) hS ?_
    ·clear hS' hS
     first | (go_simp; done) | (go_simp; with_reducible rfl)
    simp only [Act.put,List.setIfInBounds_toArray,List.set_cons_zero,List.set_cons_succ]
    refine until_at (i:=13) (n:=66) (.slice A6 lk.length c6) rfl rfl (by kernel_rfl) (by kernel_rfl) (by kernel_rfl) (by kernel_rfl) (fun _ _ _ h=>h) rfl (fun w' hS'=>?_) hS ?_
    ·have l0:=hS'.q0
     clear hS' hS
     first | (go_simp; done) | (go_simp; with_reducible rfl)
    simp only [Act.put,List.setIfInBounds_toArray,List.set_cons_zero,List.set_cons_succ]
    refine until_at (i:=14) (n:=67) (.agg #[.string x0,.bool x1,.string x2,.string x3,.bool x4,.string x5,.bool x6,.string x7]) rfl rfl (by kernel_rfl) (by kernel_rfl) (by kernel_rfl) (by kernel_rfl) (fun _ _ _ h=>h) rfl (fun w' hS'=>?_) hS ?_
    ·have l0:=hS'.c0
     have l1:=hS'.c1
     have l2:=hS'.c2
     have l3:=hS'.c3
     have l4:=hS'.c4
     have l5:=hS'.c5
     have l6:=hS'.c6
     have l7:=hS'.c7
     clear hS' hS
     first | (go_simp; done) | (go_simp; with_reducible rfl)
    simp only [Act.put,List.setIfInBounds_toArray,List.set_cons_zero,List.set_cons_succ]
    refine until_one (i:=11) (by kernel_rfl) rfl (fun K' hK=>?_)
    rw [if_pos (by rfl)]
    go_wp2_with (go_at_call 19; refine (HId.out _ hS.gr).mono ?_; rintro e w6 ⟨it,rfl,hit,hits,hb6⟩)
    refine hK.out _ _ (fun _=>hS.keep (gr_below hb6 none) (by simp)) ?_
    have hS:=hS.keep (gr_below hb6 none) (by simp)
    clear hK
    refine until_one (i:=15) (by kernel_rfl) rfl (fun K' hK=>?_)
    rw [if_pos (by rfl)]
    go_wp2_with (go_at_call 18; refine (HPc.out _ hS.gr).mono ?_; rintro e w7 ⟨rfl,hsm7,hb7⟩)
    refine hK.out _ _ (fun _=>hS.keep (gr_below hb7 none) (by simp)) ?_
    have hS:=hS.keep (gr_below hb7 none) (by simp)
    clear hK
    refine until_at (i:=16) (n:=69) (.agg #[.slice A6 lk.length c6,.string bk,.string it,.string y0,.bool y1,.string y2,.string y3,.bool y4,.string y5,.bool y6,.string y7]) rfl rfl (by kernel_rfl) (by kernel_rfl) (by kernel_rfl) (by kernel_rfl) (fun _ _ _ h=>h) rfl (fun w' hS'=>?_) hS ?_
    ·clear hS' hS
     first | (go_simp; done) | (go_simp; with_reducible rfl)
    simp only [Act.put,List.setIfInBounds_toArray,List.set_cons_zero,List.set_cons_succ]
    refine until_one (i:=17) (by kernel_rfl) rfl (fun K' hK=>?_)
    rw [if_pos (by rfl)]
    go_wp2
    refine hK.out _ _ (fun _=>hS.keep (gr_below ((Below.refl _ _).alloc (Nat.le_refl _) _) none) (by simp)) ?_
    have hS:=hS.keep (gr_below ((Below.refl w7.heap.size w7).alloc (Nat.le_refl _) (xobj ⟨.slice A6 lk.length c6,lk,bk,it,⟨y0,y1,y2,y3,y4,y5,y6,y7⟩⟩)) none) (by simp)
    clear hK
    refine until_one (i:=18) (by kernel_rfl) rfl (fun K' hK=>?_)
    refine step_appX _ (by rfl) (.tmp 57) (.tmp 70) (by rfl) w5.heap.size (.slice Av K.length cv) K (by rfl) (World.ownsRow.alloc (OwnX.below HOW.out ((Below.refl W.heap.size W).drew.trans (hb6.trans (hb7.mono hb6.size))) (Nat.le_refl _)) _) _ _ ⟨.slice A6 lk.length c6,lk,bk,it,⟨y0,y1,y2,y3,y4,y5,y6,y7⟩⟩ (by rfl) (xc_of (heap_newN w7 (xobj ⟨.slice A6 lk.length c6,lk,bk,it,⟨y0,y1,y2,y3,y4,y5,y6,y7⟩⟩))) rfl hK1 (by have:=hb6.size; have:=hb7.size; have:=hWg.size; simp at *; omega) ?_
    intro v8 w8 hO8 hg8 hk8
    have hS8:=hS.keep hg8 (fun x e=>⟨fun e2=>by have:=HC3.out _ e; omega,fun e2=>HR3.out _ (Nat.le_of_eq e2.symm) e,fun e2=>by have:=HC3.out _ e; omega,HC3.out _ e⟩)
    refine hK.out _ _ (fun _=>hS8) ?_
    have hB8:BK w8 w3.heap.size (.slice A1 lh.length c1) (.slice Av K.length cv) 0:=BK.gr (BK.gr (BK.gr (BK.gr HBW.out (gr_below (Below.refl W.heap.size W).drew none) (by simp)) (gr_below hb6 none) (by simp)) (gr_below hb7 none) (by simp)) (gr_trans (gr_below (below_oneP w7 _) _) hg8) (fun e=>by have:=HC3.out _ e.symm; omega)
    obtain ⟨A8,n8,c8,hv8⟩:∃ A8 n8 c8,v8 = .slice A8 n8 c8:=by
     obtain ⟨A8,c8,e8,_⟩:=hO8.len
     exact ⟨A8,_,c8,e8⟩
    subst hv8
    clear hS hK hk8 hg8
    have hS:=hS8
    change wpAnyU _ _ _ _ _ _ _ _ (Act.put _ (some 71) _) _
    simp only [Act.put,List.setIfInBounds_toArray,List.set_cons_zero,List.set_cons_succ]
    refine until_one (i:=19) (by kernel_rfl) rfl (fun K' hK=>?_)
    rw [if_pos (by rfl)]
    go_wp2
    refine hK.out _ _ (fun _=>hS) ?_
    clear hK
    refine until_at (i:=20) (n:=73) (.pointer (some ⟨w3.heap.size,1,none⟩)) rfl rfl (by kernel_rfl) (by kernel_rfl) (by kernel_rfl) (by kernel_rfl) (fun _ _ _ h=>h) rfl (fun w' hS'=>?_) hS ?_
    ·clear hS' hS
     first | (go_simp; done) | (go_simp; with_reducible rfl)
    simp only [Act.put,List.setIfInBounds_toArray,List.set_cons_zero,List.set_cons_succ]
    have HO8:=Box.mk hO8
    have HB8:=Box.mk hB8
    obtain ⟨-,cb8,-,cf8,cl8⟩:=hB8.cells
    have hgS:=hS.gr
    clear hO8 hB8 hS8 hS
    refine until_one (i:=21) (by kernel_rfl) rfl (fun K' hK=>?_)
    rw [if_pos (by rfl)]
    go_wp2
    refine hK.out _ _ (fun h=>absurd rfl h) ?_
    clear hK
    refine until_done (by kernel_rfl) ?_ _
    have hg9:=gr_set w8 w3.heap.size 1 (.slice A8 n8 c8)
    have HO9:=Box.mk (OwnX.kept HO8.out hg9 hb5)
    have HB9:=Box.mk (HB8.out.setP (.slice A8 n8 c8))
    have hgE:=gr_more hgS hg9 (fun x e=>.inl (Option.some.inj e).symm)
    go_wp2
    go_roundw
    case rel =>
     refine ⟨j+1,_,K++[⟨.slice A6 lk.length c6,lk,bk,it,⟨y0,y1,y2,y3,y4,y5,y6,y7⟩⟩],by omega,by go_num,by rw [List.length_append,HKj.out]; rfl,HO9,⟨?_⟩,⟨fun p hp=>?_⟩,HB9,hgE⟩
     ·rw [List.map_append,HV.out,HV2.out,← hit,← HLs.out]
      rfl
     ·rcases List.mem_append.1 hp with hp | hp
      ·exact HXS.out p hp
      ·rw [List.mem_singleton.1 hp]
       exact ⟨HFk.out,HHk.out,by show bk.size ≤ _; omega,hits,hsm7⟩
    case measure=>simp [intOf]; omega
   ·have hjl:j = ps.length:=by omega
    subst hjl
    have HV3:Box (K.map XP.bp = ps.map (pieceB (placeB zeroA (lh.map fl2)))):=⟨by rw [HV.out,List.take_of_length_le (Nat.le_refl _)]⟩
    obtain ⟨Av,cv,hv,hcv⟩:=HOx.out.len
    subst hv
    have hKl:=hK60
    have HRo:=Box.mk (rootOf_any Av cv K (.slice Aq Pm.length cq) Pm wr (xl_own HOx.out (fun p hp=>(HXS.out p hp).below hb3r) hKl) HHP.out (HFQ3.out.below hb3r (Nat.le_refl _)))
    obtain ⟨-,cb1,-,cbf,cbl⟩:=HBK.out.cells
    have hkk:¬ ((ps.length:Int) < (ps.length:Int)):=by omega
    go_wp2_with fail
    refine HRo.out.mono ?_
    rintro e w9 ⟨rfl,hb9⟩
    have HB9:=Box.mk (HBK.out.gr (gr_below hb9 none) (by simp))
    obtain ⟨-,cb9,cr9,cf9,cl9⟩:=HB9.out.cells
    have hrt:rootB (K.map XP.bp) (startB (Pm.map pb2)) < K.length:=by
     have:=rootB_lt (K.map XP.bp) (startB (Pm.map pb2)) (by intro e; have:=congrArg List.length e; rw [List.length_map] at this; simp at this; have h2:=HKj.out; rw [this] at h2; simp at h2; omega)
     rwa [List.length_map] at this
    clear HRo
    go_wp2
    go_ret2
    have hgE:=gr_set w9 w3.heap.size 2 (.int .i64 (rootB (K.map XP.bp) (startB (Pm.map pb2)):Int))
    have hbE:Below w3.heap.size w3 (w9.setCell ⟨w3.heap.size,2,none⟩ (.int .i64 (rootB (K.map XP.bp) (startB (Pm.map pb2)):Int))):=(hb3r.trans (hb9.mono hb3r.size)).setCell (Nat.le_refl _) _
    have hOE:OwnX (w9.setCell ⟨w3.heap.size,2,none⟩ (.int .i64 (rootB (K.map XP.bp) (startB (Pm.map pb2)):Int))) w5.heap.size (.slice Av K.length cv) K:=OwnX.kept (OwnX.below HOx.out hb9 (Nat.le_refl _)) hgE hb5
    obtain ⟨z0,z1,z2,-,-⟩:=(HB9.out.setR (rootB (K.map XP.bp) (startB (Pm.map pb2)):Int)).cells
    refine ⟨?_,hb03.trans (hbE.mono hb03.size)⟩
    rw [HO2.out]
    exact ⟨w3.heap.size,.slice A1 lh.length c1,lh,Av,cv,K,rootB (K.map XP.bp) (startB (Pm.map pb2)),rfl,⟨z0,z1,z2,hcv,HFL3.out.below hbE (Nat.le_refl _),HHd.out,xl_own hOE (fun p hp=>(HXS.out p hp).below hbE) hKl,hrt⟩,by rw [HV3.out]⟩
end Go.Proofs.YtknhacbfddggpaaGreatDoor
