import Derived.Test.YtknhacbfddggpaaGreatDoorZ28
import Derived.Test.YtknhacbfddggpaaGreatDoorZ36
namespace Go.Proofs.YtknhacbfddggpaaGreatDoor
open Go.RowKit Go.Proofs.Px
theorem bunescF_len:∀ (k:Nat) (s:List UInt8),(unescF k s).length ≤ s.length
 | 0,s=>by cases s <;> simp [unescF]
 | k+1,[]=>by simp [unescF]
 | k+1,c :: r=>by
  show List.length (match signs.find? (fun w=>w.1.isPrefixOf (smallS (c :: r))) with | some w=>w.2 :: unescF k ((c :: r).drop w.1.length) | none=>c :: unescF k r) ≤ _
  split
  ·rename_i w hf
   have hm:=List.mem_of_find?_eq_some hf
   have hp:0 < w.1.length:=by
    have key:∀ w ∈ signs,0 < w.1.length:=by decide
    exact key w hm
   have h1:=bunescF_len k ((c :: r).drop w.1.length)
   simp only [List.length_cons,List.length_drop] at h1 ⊢
   omega
  ·have h1:=bunescF_len k r
   simp only [List.length_cons]
   omega
theorem says_len (s:List UInt8):∀ v ∈ saysP s,v.length ≤ s.length:=by
 intro v hv
 unfold saysP at hv
 obtain ⟨q,hq,rfl⟩:=List.mem_map.1 hv
 obtain ⟨x,u,t,h1,h2⟩:=links_in (itsP s) 0 (tlP s) q hq
 have hs:=(page_turned s (itsP s) (tlP s) (itsP_run s) []).1
 rw [h1]
 have h3:(unescS x).length ≤ x.length:=bunescF_len _ _
 have h4:=congrArg List.length (hs.trans h2)
 simp only [List.length_append] at h4
 omega
def LKs (w:World) (B:Nat) (v:Value) (l:List (List UInt8)):Prop:=∃ ls:List Lk,OwnL w B v ls∧ls.map (fun x=>x.2.2.data.toList) = l
set_option maxHeartbeats 1000000 in
set_option maxRecDepth 100000 in
theorem blinks_any (p:XP) (w:World) (hp:XS w p) (hG:PGB w w.heap.size) (hm:Max w) :
  Calls Tryz.prog 30 #[p.val] w fun e w'=>∃ v,e = .returned v∧LKs w' w.heap.size v (linksB p.bp)∧Below w.heap.size w w':=by
 have hw0:=hm.1
 have hbA:Below w.heap.size w (w.alloc (xobj p)):=(Below.refl _ _).alloc (Nat.le_refl _) _
 have hgA:=heap_newN w (xobj p)
 have HX:Box (∀ w':World,w'.heap[w.heap.size]? = some (xobj p) → XC w' w.heap.size 0 p):=⟨fun w' h'=>xc_of h'⟩
 have HF:=Box.mk (hp.fl.below hbA (Nat.le_refl _))
 have HS:=Box.mk hp.hs
 have hbs:=hp.bs
 have HM:=Box.mk hm
 have HM1:=Box.mk (hm.below hbA hw0)
 have HG:=Box.mk hG
 obtain ⟨R,HR⟩:∃ R,Box (linksB p.bp = R):=⟨_,⟨rfl⟩⟩
 rw [HR.out]
 obtain ⟨A,cap,hv,hcap,hcell⟩:=hp.fl
 obtain ⟨hd,fs,bd,id,⟨b0,b1,b2,b3,b4,b5,b6,b7⟩⟩:=p
 simp only at hv
 subst hv
 clear hp hcell hG hm hcap
 unfold xobj at hbA hgA HX HF HM1
 simp only at hbA hgA HX HF HM1 HS hbs
 go_enter Tryz.func30,Tryz.ntmps30
 go_wp2_with fail
 refine (kindOf_any _ fs _ HS.out HF.out HM1.out).mono ?_
 rintro e w1 ⟨⟨m,v,P,rfl,hm1,-,hO,-,-⟩,hb1⟩
 have hb01:=hbA.trans (hb1.mono hbA.size)
 obtain ⟨d0,d1,-⟩:=HX.out _ (heap_in hb1 hgA)
 simp only [Nat.zero_add] at d0 d1
 by_cases he:m.toList = [116,101,120,116,47,104,116,109,108]
 ·have HE:Box (R = saysP bd.data.toList):=⟨by
   rw [← HR.out]
   unfold linksB
   have:(kindB (XP.bp ⟨.slice A fs.length cap,fs,bd,id,⟨b0,b1,b2,b3,b4,b5,b6,b7⟩⟩).head).1 = htmN:=by
    show (kindB (fs.map fl2)).1 = htmN
    rw [← hm1,← ByteArray.toList_eq,he]
    rfl
   rw [if_pos this]
   rfl⟩
  have HG1:=Box.mk ((HG.out.below hb01).up hb01.size)
  clear HR hm1 hO
  go_wp2_with fail
  refine (links_any bd _ HG1.out (by omega) _ _ (itsP_run _)).mono ?_
  rintro e w2 ⟨v2,ls,rfl,hO2,hl2,hb2⟩
  have hb02:=hb01.trans (hb2.mono hb01.size)
  have HL:Box (LKs w2 w.heap.size v2 R):=⟨ls,hO2.mono hb01.size,by
   rw [HE.out]
   unfold saysP
   rw [← hl2,List.map_map]
   rfl⟩
  rcases hO2.shape with ⟨rfl,_⟩ | ⟨g2,cap2,rfl,_⟩
  all_goals
   go_wp2
   go_ret
   exact ⟨_,rfl,HL.out,hb02⟩
 ·have HE:Box (R = []):=⟨by
   rw [← HR.out]
   unfold linksB
   have:¬ (kindB (XP.bp ⟨.slice A fs.length cap,fs,bd,id,⟨b0,b1,b2,b3,b4,b5,b6,b7⟩⟩).head).1 = htmN:=by
    show ¬ (kindB (fs.map fl2)).1 = htmN
    rw [← hm1,← ByteArray.toList_eq]
    exact he
   rw [if_neg this]⟩
  have hn:(m.toList == [116,101,120,116,47,104,116,109,108]) = false:=beq_eq_false_iff_ne.2 he
  clear HR hm1 hO
  go_wp2
  go_ret
  exact ⟨_,rfl,⟨[],OwnL.nil _ _,HE.out.symm⟩,hb01⟩
end Go.Proofs.YtknhacbfddggpaaGreatDoor
namespace Go.Proofs.YtknhacbfddggpaaGreatDoor
open Go.RowKit Go.Proofs.Px
abbrev Ld:=ByteArray × Option Nat
def ld2 (l:Ld):List UInt8 × Option Nat:=(l.1.data.toList,l.2)
def dcells (L:List Ld):List Value:=L.flatMap fun l=>[Value.string l.1,idxV l.2]
theorem dcells_append (L M:List Ld):dcells (L++M) = dcells L++dcells M:=by simp [dcells]
theorem dcells_get (L:List Ld) (k:Nat) (hk:k < L.length):(dcells L)[k * 2]? = some (.string L[k].1)∧(dcells L)[k * 2+1]? = some (idxV L[k].2):=by
 induction L generalizing k with
 | nil=>exact absurd hk (by simp)
 | cons f L ih =>
  have e:dcells (f :: L) = Value.string f.1 :: idxV f.2 :: dcells L:=rfl
  cases k with
  | zero=>rw [e]; exact ⟨rfl,rfl⟩
  | succ k =>
   have:=ih k (by simpa using hk)
   have e1:(k+1) * 2 = k * 2+1+1:=by omega
   rw [e,e1]
   exact this
def OwnD (w:World) (B:Nat) (v:Value) (L:List Ld):Prop:=w.ownsRow B 46 2 v L.length (dcells L)
theorem Tryz.infoLead:(Tryz.prog.info? 46).map (fun i=>(i.zero,i.size,i.bytes)) = some (some (.agg #[.string ⟨#[]⟩,.int .i64 0]),2,24):=by kernel_rfl
theorem OwnD.nil (w:World) (B:Nat):OwnD w B (.slice none 0 0) []:=World.ownsRow_nil _ _ _ _
theorem OwnD.below {w w':World} {B C:Nat} {v:Value} {L:List Ld} (h:OwnD w B v L) (hb:Below C w w') (hC:w.heap.size ≤ C):OwnD w' B v L:=by
 obtain ⟨h1,h2⟩:=h
 refine ⟨h1,?_⟩
 rcases h2 with h2 | ⟨g,cap,cur,a,b,c,d⟩
 ·exact .inl h2
 ·refine .inr ⟨g,cap,cur,a,b,?_,d⟩
  rw [hb.block g ?_]
  ·exact c
  ·have:=(Array.getElem?_eq_some_iff.1 c).1
   omega
theorem OwnD.mono {w:World} {B B':Nat} {v:Value} {L:List Ld} (h:OwnD w B v L) (hB:B' ≤ B):OwnD w B' v L:=by
 obtain ⟨h1,h2⟩:=h
 refine ⟨h1,?_⟩
 rcases h2 with h2 | ⟨g,cap,cur,a,b,c⟩
 ·exact .inl h2
 ·exact .inr ⟨g,cap,cur,a,Nat.le_trans hB b,c⟩
theorem OwnD.shape {w:World} {B:Nat} {v:Value} {L:List Ld} (h:OwnD w B v L) :
  (v = .slice none 0 0∧L = []) ∨ ∃ g cap,v = .slice (some ⟨g,0,none⟩) L.length cap∧B ≤ g∧g < w.heap.size∧L.length ≤ cap:=by
 rcases h.2 with ⟨a,b⟩ | ⟨g,cap,cur,a,b,c,d,e,_⟩
 ·exact .inl ⟨a,List.eq_nil_of_length_eq_zero b⟩
 ·exact .inr ⟨g,cap,a,b,(Array.getElem?_eq_some_iff.1 c).1,d⟩
theorem OwnD.cell {w:World} {B g cap n:Nat} {L:List Ld} (h:OwnD w B (.slice (some ⟨g,0,none⟩) n cap) L) (k:Nat) (hk:k < L.length):w.cell? ⟨g,k * 2,none⟩ = some (.string L[k].1)∧w.cell? ⟨g,k * 2+1,none⟩ = some (idxV L[k].2):=by
 have hn:n = L.length:=by
  rcases h.2 with ⟨a,_⟩ | ⟨g',cap',cur,a,_⟩
  ·cases a
  ·simp only [Value.slice.injEq] at a; exact a.2.1
 subst hn
 have h':w.ownsRow B 46 2 (.slice (some ⟨g,0,none⟩) L.length cap) L.length (dcells L):=h
 have hg:=dcells_get L k hk
 exact ⟨(World.ownsRow.cellAt h' (k * 2) (by omega)).trans hg.1,(World.ownsRow.cellAt h' (k * 2+1) (by omega)).trans hg.2⟩
theorem wp_appD {ops:Array Oper} {rest:List Oper} {o:Oper} {a:Act} {Q:Exit → Act → World → Prop} (W w0:World) (hgd:o.guard = none) (s x:Operand) (ho:o.op = .call { callee:=.builtin .append,args:=#[s,x],argTypes:=#[39,39] })
  (B:Nat) (v:Value) (L:List Ld) (hs:a.eval s = v) (hown:OwnD W B v L) (b c:Nat) (f:Ld) (hx:a.eval x = .slice (some ⟨b,0,none⟩) 1 c) (h0:W.cell? ⟨b,0,none⟩ = some (.string f.1)) (h1:W.cell? ⟨b,1,none⟩ = some (idxV f.2)) (hl:L.length+1 ≤ 1000000000) (hB:B ≤ W.heap.size) (hb:Below B w0 W)
  (h:∀ v' w',OwnD w' B v' (L++[f]) → Below B w0 w' → wpList Tryz.prog ops Q rest (a.put o.dst v') w'):wpList Tryz.prog ops Q (o :: rest) a W:=by
 obtain ⟨i0,hi,hz0,hz1,hz2⟩:=info_parts Tryz.infoLead
 refine wpList_append_own W hgd s x 39 ho B 46 i0 (.agg #[.string ⟨#[]⟩,.int .i64 0]) 2 24 Tryz.underlying39 hi hz0 hz1 hz2 rfl (by decide) v L.length (dcells L) hs hown ⟨b,0,none⟩ 1 c (dcells [f]) hx rfl ?_ ?_ (by unfold maxLen; omega) (by omega) hB ?_
 ·intro j u hj
  have hjl:j < 2:=(List.getElem?_eq_some_iff.1 hj).1
  rw [Addr.add_lit,Nat.zero_add]
  match j,hjl,hj with
  | 0,_,hj=>rw [h0]; exact hj
  | 1,_,hj=>rw [h1]; exact hj
 ·intro u hu
  have:u = .string f.1 ∨ u = idxV f.2:=by simpa [dcells] using hu
  rcases this with rfl | rfl
  ·rfl
  ·cases f.2 <;> rfl
 ·intro v' w' h2 h3 _
  refine h v' w' ?_ (hb.grown h3 hB (fun k hk=>(World.ownsRow.lt hown k hk).1))
  unfold OwnD
  rw [List.length_append,dcells_append]
  exact h2
end Go.Proofs.YtknhacbfddggpaaGreatDoor
namespace Go.Proofs.YtknhacbfddggpaaGreatDoor
open Go.RowKit Go.Proofs.Px
set_option maxHeartbeats 2000000 in
set_option maxRecDepth 100000 in
theorem bleads_any {w:World} {b:Nat} {hv:Value} {hl:List Fl} {A:Option Addr} {cap:Nat} {ps:List XP} {root:Nat} (h:BN w b hv hl A cap ps root) (k:Nat) (hk:k < ps.length) (hG:PGB w w.heap.size) (hm:Max w) :
  Calls Tryz.prog 11 #[.pointer (some ⟨b,0,none⟩),.int .i64 (k:Int)] w fun e w'=>∃ v L,e = .returned (.tuple #[v,.nilIface])∧OwnD w' w.heap.size v L∧L.map ld2 = leadsB (ps.map XP.bp) ps[k].bp∧Below w.heap.size w w':=by
 have hw0:=hm.1
 have HH:=Box.mk (has_any h k hk)
 have c1:=h.c1
 have hcap:=h.cap
 obtain ⟨g,off,e1,hx⟩:=h.xl.at_ k hk
 subst e1
 have HXS:=Box.mk (h.xl.sm ps[k] (List.getElem_mem hk))
 generalize ps[k] = p at hx HXS ⊢
 have hbA:Below w.heap.size w (w.alloc (xobj p)):=(Below.refl _ _).alloc (Nat.le_refl _) _
 have hgA:=heap_newN w (xobj p)
 have HX:Box (∀ w':World,w'.heap[w.heap.size]? = some (xobj p) → XC w' w.heap.size 0 p):=⟨fun w' h'=>xc_of h'⟩
 have HLk:=Box.mk (blinks_any p _ (HXS.out.below hbA) ((hG.below hbA).up hbA.size) (hm.below hbA hw0))
 have HBL:Box (∀ (w1:World) (s:ByteArray),Below w.heap.size w w1 → s.size ≤ 100000 → Calls Tryz.prog 31 #[.pointer (some ⟨b,0,none⟩),p.val,.string s] w1 fun e w'=>∃ S,e = .returned (ldVal S (leadB (ps.map XP.bp) p.loc.ab s.data.toList).2)∧S.data.toList = (leadB (ps.map XP.bp) p.loc.ab s.data.toList).1∧Below w1.heap.size w1 w'):=⟨fun w1 s hb1 hs=>blead_any (h.below hb1) p HXS.out.ad s hs (hm.below hb1 hw0)⟩
 have hbs:=HXS.out.bs
 have HSz:Box (∀ v ∈ linksB p.bp,v.length ≤ 100000):=⟨fun v hv=>by
  unfold linksB at hv
  split at hv
  ·have h1:=says_len _ v hv
   have h2:p.bp.body.length = p.bd.size:=size_list p.bd
   omega
  ·cases hv⟩
 have HLen:Box ((linksB p.bp).length ≤ 1000000):=⟨by
  unfold linksB
  split
  ·unfold saysP
   rw [List.length_map,links_len]
   have h1:=run_count none _ _ _ (itsP_run p.bp.body)
   have h2:p.bp.body.length = p.bd.size:=size_list p.bd
   omega
  ·exact Nat.zero_le _⟩
 have hle:leadsB (ps.map XP.bp) p.bp = (linksB p.bp).map (leadB (ps.map XP.bp) p.loc.ab):=rfl
 rw [hle]
 clear hle
 generalize linksB p.bp = LL at HLk HSz HLen ⊢
 obtain ⟨V,HV⟩:∃ V,Box (leadB (ps.map XP.bp) p.loc.ab = V):=⟨_,⟨rfl⟩⟩
 rw [HV.out] at HBL ⊢
 have k1:(0:Int) ≤ (k:Int):=by omega
 have k2:(k:Int) < (ps.length:Int):=by omega
 obtain ⟨AH,capH,hvH,-,-⟩:=_root_.id HXS.out.fl
 obtain ⟨hd,fs,bd,id,⟨b0,b1,b2,b3,b4,b5,b6,b7⟩⟩:=p
 simp only at hvH
 subst hvH
 obtain ⟨f0,f1,f2,f3,f4,f5,f6,f7,f8,f9,fa⟩:=hx
 unfold xobj at hbA hgA HX HLk
 simp only at hbA hgA HX HLk f0 f1 f2 f3 f4 f5 f6 f7 f8 f9 fa
 clear h hG hm HXS HV
 go_enter Tryz.func11,Tryz.ntmps11
 go_wp2_with (go_at_call 29; refine HH.out.mono ?_; rintro e w' ⟨rfl,rfl⟩)
 refine HLk.out.mono ?_
 rintro e w1 ⟨v1,rfl,⟨ls,hO1,hls⟩,hb1⟩
 have hb01:=hbA.trans (hb1.mono hbA.size)
 have hg1:=heap_in hb1 hgA
 obtain ⟨AL,capL,hv1,hcL⟩:=hO1.len
 subst hv1
 have HO1:=Box.mk hO1
 have HLS:=Box.mk hls
 have hll:ls.length ≤ 1000000:=by have:=HLen.out; rw [← hls,List.length_map] at this; exact this
 have HSl:Box (∀ j (hj:j < ls.length),ls[j].2.2.size ≤ 100000):=⟨fun j hj=>by
  have:=HSz.out ls[j].2.2.data.toList (by rw [← hls]; exact List.mem_map_of_mem (f:=fun x:Lk=>x.2.2.data.toList) (List.getElem_mem hj))
  rwa [size_list] at this⟩
 clear HLk hO1 hls hgA hb1 hbA HH HSz HLen f0 f1 f2 f3 f4 f5 f6 f7 f8 f9 fa
 go_wp2
 go_loopw [7,25] (fun x i wr=>∃ (j:Nat) (L:List Ld),j ≤ ls.length∧i = .int .i64 j∧L.length ≤ j∧Box (OwnD wr w1.heap.size x L)∧Box (L.map ld2 = (ls.take j).map fun l=>V l.2.2.data.toList)∧Below w1.heap.size w1 wr) (fun _ i _=>ls.length - (intOf i).toNat)
 case atStart=>exact ⟨0,[],Nat.zero_le _,rfl,Nat.le_refl _,⟨OwnD.nil _ _⟩,⟨rfl⟩,Below.refl _ _⟩
 case round =>
  obtain ⟨j,L,hj,rfl,hxj,HO,HVL,hb⟩:=hrel
  have hsz:=hb.size
  by_cases hlt:j < ls.length
  ·rcases HO1.out.shape with ⟨_,hn⟩ | ⟨gl,cg,hg,_,hg2,_⟩
   ·rw [hn] at hlt; exact absurd hlt (by simp)
   simp only [Value.slice.injEq] at hg
   obtain ⟨rfl,_,rfl⟩:=hg
   obtain ⟨e0,e1,e2⟩:=(HO1.out.below hb (Nat.le_refl _)).cell j hlt
   have hs2:=HSl.out j hlt
   have HV2:Box ((ls.take (j+1)).map (fun l=>V l.2.2.data.toList) = (ls.take j).map (fun l=>V l.2.2.data.toList)++[V ls[j].2.2.data.toList]):=⟨by rw [List.take_add_one,List.getElem?_eq_getElem hlt,List.map_append]; rfl⟩
   generalize ls[j].1 = q0 at e0
   generalize ls[j].2.1 = q1 at e1
   generalize ls[j].2.2 = q2 at e2 hs2 HV2
   have hbB:Below w1.heap.size w1 (wr.alloc (.cells #[.int .i64 (q0:Int),.int .i64 (q1:Int),.string q2] 80)):=hb.alloc hsz _
   have hbBw:=hb01.trans (hbB.mono hb01.size)
   obtain ⟨d0,d1,d2,d3,d4,d5,d6,d7,d8,d9,da⟩:=HX.out _ (heap_in hbB hg1)
   simp only [Nat.zero_add] at d0 d1 d2 d3 d4 d5 d6 d7 d8 d9 da
   have HC:=Box.mk (HBL.out _ q2 hbBw hs2)
   have k7:(j:Int) < (ls.length:Int):=by omega
   have k8:(0:Int) ≤ (j:Int):=by omega
   generalize V q2.data.toList = R at HC HV2
   obtain ⟨R1,R2⟩:=R
   obtain ⟨z,HZ⟩:∃ z,Box (idxV R2 = .int .i64 z):=by
    cases R2 with
    | none=>exact ⟨-1,⟨rfl⟩⟩
    | some i=>exact ⟨(i:Int),⟨rfl⟩⟩
   simp only [ldVal,HZ.out] at HC
   go_wp2_with fail
   refine HC.out.mono ?_
   rintro e w3 ⟨S,rfl,hS,hb3⟩
   have hb13:=hbB.trans (hb3.mono hbB.size)
   have hO3:OwnD w3 w1.heap.size u7 L:=OwnD.below (World.ownsRow.alloc HO.out _) hb3 (Nat.le_refl _)
   have HS:=Box.mk hS
   have hl:L.length+1 ≤ 1000000000:=by omega
   have hsz3:=hb13.size
   clear HC hS d0 d1 d2 d3 d4 d5 d6 d7 d8 d9 da e0 e1 e2
   go_wp2_with (at_builtin; refine wp_appD _ w1 rfl (.tmp 29) (.tmp 35) rfl w1.heap.size _ L rfl (World.ownsRow.alloc hO3 _) _ _ (S,R2) rfl (by simp) (by rw [HZ.out]; simp) hl (by simp; omega) (hb13.alloc hsz3 _) ?_; intro v4 w4 hO4 hb4)
   go_roundw
   case rel =>
    exact ⟨j+1,L++[(S,R2)],by omega,by go_num,by rw [List.length_append]; simp; omega,⟨hO4⟩,⟨by rw [List.map_append,HVL.out,HV2.out,← show S.data.toList = R1 from HS.out]; rfl⟩,hb4⟩
   case measure=>simp [intOf]; omega
  ·have HV3:Box (L.map ld2 = LL.map V):=⟨by rw [HVL.out,List.take_of_length_le (by omega),← HLS.out,List.map_map]; rfl⟩
   have hbw:=hb01.trans (hb.mono hb01.size)
   have hOw:=OwnD.mono HO.out hb01.size
   clear HVL HLS HBL HSl
   rcases hOw.shape with ⟨rfl,_⟩ | ⟨g2,cap2,rfl,_⟩
   all_goals
    go_wp2
    go_ret2
    exact ⟨_,_,rfl,hOw,HV3.out,hbw⟩
end Go.Proofs.YtknhacbfddggpaaGreatDoor
