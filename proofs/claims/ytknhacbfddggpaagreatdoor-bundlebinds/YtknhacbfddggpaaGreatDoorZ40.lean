import Derived.Test.YtknhacbfddggpaaGreatDoorZ27
import Derived.Test.YtknhacbfddggpaaGreatDoorZ28
import Derived.Test.YtknhacbfddggpaaGreatDoorZ37
import Derived.Deep.RegionHeld3
import Derived.Maps.AppendAt
import Derived.Test.YtknhacbfddggpaaGreatDoorZ34
import Derived.Test.YtknhacbfddggpaaGreatDoorZ29
import Derived.Test.YtknhacbfddggpaaGreatDoorZF5
import Derived.Test.YtknhacbfddggpaaGreatDoorZ24
namespace Go.Proofs.YtknhacbfddggpaaGreatDoor
open Go.RowKit Go.Proofs.Px
theorem app_nil (A:Option Addr) (n c:Nat) (hn:n ≤ c) (ty:TypeId) (w:World):(Builtin.append_ #[98,98] ty #[.slice A n c,.slice none 0 0]).run Tryz.prog w = .ok (.slice A n c) w:=by
 obtain ⟨i0,hi,hz0,hz1,hz2⟩:=info_parts Tryz.infoStr
 cases A with
 | none=>simp [Builtin.append_,run_underlying Tryz.underlying98,hn,Builtin.lenOf,Builtin.firstCells,sizeOf,typeInfo,hi]
 | some a=>simp [storeCells,Builtin.append_,run_underlying Tryz.underlying98,hn,Builtin.lenOf,Builtin.firstCells,sizeOf,typeInfo,hi]
theorem app_own (W:World) (ty:TypeId) (B C:Nat) (v u:Value) (L M:List ByteArray) (hown:OwnS W B v L) (hu:OwnS W C u M) (hl:L.length+M.length ≤ 1000000000) (hB:B ≤ W.heap.size) :
  ∃ v' w',(Builtin.append_ #[98,98] ty #[v,u]).run Tryz.prog W = .ok v' w'∧OwnS w' B v' (L++M)∧W.grownBy w' v.ownBlock∧(v'.ownBlock = v.ownBlock ∨ v'.ownBlock = some W.heap.size):=by
 rcases hu.shape with ⟨rfl,rfl⟩ | ⟨g,cap,rfl,_,_,hc,_,hcell⟩
 ·rcases hown.shape with ⟨rfl,rfl⟩ | ⟨g,cap,rfl,_,_,hc,_⟩
  ·exact ⟨_,W,app_nil _ _ _ (Nat.le_refl _) _ _,OwnS.nil _ _,⟨rfl,rfl,rfl,Nat.le_refl _,fun _ _ _=>rfl⟩,.inl rfl⟩
  ·exact ⟨_,W,app_nil _ _ _ hc _ _,by rw [List.append_nil]; exact hown,⟨rfl,rfl,rfl,Nat.le_refl _,fun _ _ _=>rfl⟩,.inl rfl⟩
 ·obtain ⟨i0,hi,hz0,hz1,hz2⟩:=info_parts Tryz.infoStr
  have hne:∀ j x,(M.map Value.string)[j]? = some x → W.cell? ((⟨g,0,none⟩:Addr).add j) = some x:=by
   intro j x hj
   rw [Addr.add_lit,Nat.zero_add]
   rw [List.getElem?_map] at hj
   obtain ⟨y,hy,rfl⟩:=Option.map_eq_some_iff.1 hj
   have hjl:=(List.getElem?_eq_some_iff.1 hy).1
   rw [hcell j hjl,← (List.getElem?_eq_some_iff.1 hy).2]
  have hone:∀ x ∈ M.map Value.string,x.oneCell' = true:=by
   intro x hx
   obtain ⟨y,_,rfl⟩:=List.mem_map.1 hx
   rfl
  by_cases hM0:M.length = 0
  ·have _hM:M = []:=List.eq_nil_of_length_eq_zero hM0
   obtain ⟨v',w',hr,k2,k3,k4,k5⟩:=run_append_own_at (P:=Tryz.prog) W B 98 ty 9 i0 (.string ⟨#[]⟩) 1 16 Tryz.underlying98 hi hz0 hz1 hz2 rfl (by decide) v L.length (L.map Value.string) hown ⟨g,0,none⟩ M.length cap (M.map Value.string) (by simp) hne hone (by unfold maxLen; omega) (by omega) hB
   refine ⟨v',w',hr,?_,k3,k5⟩
   unfold OwnS
   rw [List.length_append,List.map_append]
   exact k2
  ·obtain ⟨v',w',hr,k2,k3,k4,k5⟩:=run_append_own_at (P:=Tryz.prog) W B 98 ty 9 i0 (.string ⟨#[]⟩) 1 16 Tryz.underlying98 hi hz0 hz1 hz2 rfl (by decide) v L.length (L.map Value.string) hown ⟨g,0,none⟩ M.length cap (M.map Value.string) (by simp) hne hone (by unfold maxLen; omega) (by omega) hB
   refine ⟨v',w',hr,?_,k3,k5⟩
   unfold OwnS
   rw [List.length_append,List.map_append]
   exact k2
theorem step_appM {ops:Array Oper} {o:Oper} {a:Act} {K:Act → World → Prop} {Q:Exit → Act → World → Prop} {E:Prop} (W:World) (hgd:o.guard = none) (s x:Operand) (ho:o.op = .call { callee:=.builtin .append,args:=#[s,x],argTypes:=#[98,98] })
  (B C:Nat) (v u:Value) (L M:List ByteArray) (hs:a.eval s = v) (hown:OwnS W B v L) (hx:a.eval x = u) (hu:OwnS W C u M) (hl:L.length+M.length ≤ 1000000000) (hB:B ≤ W.heap.size)
  (h:∀ v' w',OwnS w' B v' (L++M) → W.grownBy w' v.ownBlock → (v'.ownBlock = v.ownBlock ∨ v'.ownBlock = some W.heap.size) → K (a.put o.dst v') w'):if Region.wanted o (yielded ops a.tmps) = true then Oper.wp Tryz.prog o a W K Q else E:=by
 have hw:Region.wanted o (yielded ops a.tmps) = true:=by simp [Region.wanted,hgd]
 rw [if_pos hw]
 obtain ⟨v',w',hr,k2,k3,k4⟩:=app_own W o.type B C v u L M hown hu hl hB
 unfold Oper.wp execOp
 simp only [ho,resolve,invoke,builtin,Sem.run_bind,Sem.run_pure,Result.andThen_ok,List.map_toArray,List.map_cons,List.map_nil,hs,hx,hr]
 exact h v' w' k2 k3 k4
theorem grown_cellQ {W w':World} {r:Option Nat} (hg:W.grownBy w' r) {b i:Nat} {u:Value} (hr:r ≠ some b) (h:W.cell? ⟨b,i,none⟩ = some u):w'.cell? ⟨b,i,none⟩ = some u:=by
 have e:=hg.block b (World.block_lt_of_cell? W _ h) (fun x=>hr x.symm)
 unfold World.cell? at h ⊢
 simp only [e]
 exact h
def saysTo (ps:List XP) (j:Nat):List ByteArray:=(ps.take j).flatMap fun p=>p.fs.map (·.2)++[p.bd]
theorem saysTo_succ (ps:List XP) (j:Nat) (hj:j < ps.length):saysTo ps (j+1) = saysTo ps j++ps[j].fs.map (·.2)++[ps[j].bd]:=by
 unfold saysTo
 rw [List.take_add_one,List.getElem?_eq_getElem hj,List.flatMap_append]
 simp
theorem saysTo_len (ps:List XP) (j:Nat) (h:∀ p ∈ ps,p.fs.length ≤ 100000) (hl:ps.length ≤ 60):(saysTo ps j).length ≤ 6000060:=by
 have key:∀ qs:List XP,(∀ p ∈ qs,p.fs.length ≤ 100000) → (qs.flatMap fun p=>p.fs.map (·.2)++[p.bd]).length ≤ qs.length * 100001:=by
  intro qs
  induction qs with
  | nil=>intro _; simp
  | cons q qs ih =>
   intro hq
   have h1:=ih (fun p hp=>hq p (List.mem_cons_of_mem _ hp))
   have h2:=hq q (List.mem_cons_self)
   rw [List.flatMap_cons,List.length_append,List.length_append,List.length_map,List.length_cons]
   simp only [List.length_cons,List.length_nil]
   omega
 have h1:=key (ps.take j) (fun p hp=>h p (List.mem_of_mem_take hp))
 have h2:(ps.take j).length ≤ ps.length:=List.length_take_le' _ _
 unfold saysTo
 omega
theorem keepT {a W w':World} {C g:Nat} {u0 u1:Value} (h:Below W.heap.size W w') (c0:W.cell? ⟨g,0,none⟩ = some u0) (c1:W.cell? ⟨g,1,none⟩ = some u1) (hb:Below C a W) (hC:C ≤ W.heap.size):w'.cell? ⟨g,0,none⟩ = some u0∧w'.cell? ⟨g,1,none⟩ = some u1∧Below C a w':=
 ⟨(h.cell (p:=⟨g,0,none⟩) (World.block_lt_of_cell? W _ c0)).trans c0,(h.cell (p:=⟨g,1,none⟩) (World.block_lt_of_cell? W _ c1)).trans c1,hb.trans (h.mono hC)⟩
theorem keepG {a W w':World} {C g:Nat} {u0 u1:Value} {r:Option Nat} (h:W.grownBy w' r) (c0:W.cell? ⟨g,0,none⟩ = some u0) (c1:W.cell? ⟨g,1,none⟩ = some u1) (hb:Below C a W) (hC:C ≤ W.heap.size) (hr:r ≠ some g) (hrC:∀ k,r = some k → C ≤ k):w'.cell? ⟨g,0,none⟩ = some u0∧w'.cell? ⟨g,1,none⟩ = some u1∧Below C a w':=
 ⟨grown_cellQ h hr c0,grown_cellQ h hr c1,hb.grown h hC hrC⟩
set_option maxHeartbeats 2000000 in
set_option maxRecDepth 100000 in
theorem btexts_any {w:World} {b:Nat} {hv:Value} {hl:List Fl} {A:Option Addr} {cap:Nat} {ps:List XP} {root:Nat} (h:BN w b hv hl A cap ps root) :
  Calls Tryz.prog 47 #[.pointer (some ⟨b,0,none⟩)] w fun e w'=>∃ u,e = .returned u∧OwnS w' w.heap.size u (hl.map (·.2)++saysTo ps ps.length)∧Below w.heap.size w w':=by
 have HB:=Box.mk h
 have c0:=h.c0
 have c1:=h.c1
 have hcap:=h.cap
 have hplen:=h.xl.len
 have HSz:=Box.mk (fun j=>saysTo_len ps j (fun p hp=>(h.xl.sm p hp).hs.1) hplen)
 have hhl:=h.hs.1
 have hblk:b < w.heap.size:=World.block_lt_of_cell? w _ c0
 clear h
 go_enter Tryz.func47,Tryz.ntmps47
 go_wp2_with fail
 refine (bsays_any hv hl _ HB.out.hs HB.out.hf).mono ?_
 rintro e w1 ⟨v1,rfl,hO1,hb1⟩
 have HB1:=Box.mk (HB.out.below hb1)
 have d1:=HB1.out.c1
 have HO1:=Box.mk hO1
 obtain ⟨A1,n1,cp1,hv1⟩:∃ A1 n1 cp1,v1 = .slice A1 n1 cp1:=by
  rcases hO1.shape with ⟨rfl,_⟩ | ⟨g,cg,rfl,_⟩
  ·exact ⟨_,_,_,rfl⟩
  ·exact ⟨_,_,_,rfl⟩
 subst hv1
 clear hO1
 go_wp2
 go_loopw [3,16] (fun x i wr=>∃ j:Nat,j ≤ ps.length∧i = .int .i64 j∧Box (OwnS wr w.heap.size x (hl.map (·.2)++saysTo ps j))∧Below w.heap.size w wr) (fun _ i _=>ps.length - (intOf i).toNat)
 case atStart=>exact ⟨0,Nat.zero_le _,rfl,⟨by rw [show saysTo ps 0 = [] from rfl,List.append_nil]; exact HO1.out⟩,hb1⟩
 case round =>
  obtain ⟨j,hj,rfl,HO,hb⟩:=hrel
  have hsz:=hb.size
  by_cases hlt:j < ps.length
  ·have HBr:=Box.mk (HB.out.below hb)
   obtain ⟨g,off,e1,hx⟩:=HBr.out.xl.at_ j hlt
   subst e1
   have HXS:=Box.mk (HBr.out.xl.sm ps[j] (List.getElem_mem hlt))
   have HSu:=Box.mk (saysTo_succ ps j hlt)
   generalize ps[j] = p at hx HXS HSu
   have hbP:Below wr.heap.size wr (wr.alloc (xobj p)):=(Below.refl _ _).alloc (Nat.le_refl _) _
   have hgP:=heap_newN wr (xobj p)
   have HFl:=Box.mk (HXS.out.fl.below hbP (Nat.le_refl _))
   have HHs:=Box.mk HXS.out.hs
   have hfl:=HXS.out.hs.1
   have hln:(hl.map (·.2)++saysTo ps j).length ≤ 7000000:=by
    have:=HSz.out j
    rw [List.length_append,List.length_map]
    omega
   have HLn:=Box.mk hln
   clear hln
   have hOA:OwnS (wr.alloc (xobj p)) w.heap.size u3 (hl.map (·.2)++saysTo ps j):=World.ownsRow.alloc HO.out _
   have HOA:=Box.mk hOA
   clear hOA
   have HNx:Box (hl.map (·.2)++saysTo ps (j+1) = (hl.map (·.2)++saysTo ps j)++p.fs.map (·.2)++[p.bd]):=⟨by rw [HSu.out]; simp⟩
   clear HSu
   generalize hl.map (·.2)++saysTo ps j = LL at HO HOA HLn HNx
   obtain ⟨hd,fs,bd,id,⟨a0,a1,a2,a3,a4,a5,a6,a7⟩⟩:=p
   obtain ⟨AH,capH,hvH,-,-⟩:=_root_.id HXS.out.fl
   simp only at hvH
   subst hvH
   obtain ⟨f0,f1,f2,f3,f4,f5,f6,f7,f8,f9,fa⟩:=hx
   have k1:(0:Int) ≤ (j:Int):=by omega
   have k2:(j:Int) < (ps.length:Int):=by omega
   unfold xobj at hbP hgP HFl HOA
   simp only at hbP hgP HFl HOA HHs hfl HNx f0 f1 f2 f3 f4 f5 f6 f7 f8 f9 fa
   have hr3:∀ x,wr.heap.size ≤ x → u3.ownBlock ≠ some x:=fun x hx e=>by have:=(World.ownsRow.lt HO.out x e).2; omega
   have hc3:∀ x,u3.ownBlock = some x → w.heap.size ≤ x:=fun x e=>(World.ownsRow.lt HO.out x e).1
   have HR3:=Box.mk hr3
   have HC3:=Box.mk hc3
   have hbW:=hb.trans (hbP.mono hsz)
   have hpl:(fs.map (·.2)).length ≤ 100000:=by rw [List.length_map]; exact hfl
   have HPl:=Box.mk hpl
   clear HO HXS hr3 hc3 hpl
   go_wp2_with fail
   obtain ⟨p0,p1,-⟩:=xc_of (p:=⟨.slice AH fs.length capH,fs,bd,id,⟨a0,a1,a2,a3,a4,a5,a6,a7⟩⟩) hgP
   simp only [Nat.zero_add] at p0 p1
   have hszW:wr.heap.size < (wr.alloc (.cells #[.slice AH fs.length capH,.string bd,.string id,.string a0,.bool a1,.string a2,.string a3,.bool a4,.string a5,.bool a6,.string a7] 62)).heap.size:=by simp
   generalize wr.alloc (.cells #[.slice AH fs.length capH,.string bd,.string id,.string a0,.bool a1,.string a2,.string a3,.bool a4,.string a5,.bool a6,.string a7] 62) = W at p0 p1 hgP HFl HOA hbW hbP hszW ⊢
   have hCW:w.heap.size ≤ W.heap.size:=by omega
   clear f0 f1 f2 f3 f4 f5 f6 f7 f8 f9 fa hgP hbP
   go_region_held3 (fun w'=>w'.cell? ⟨wr.heap.size,0,none⟩ = some (.slice AH fs.length capH)∧w'.cell? ⟨wr.heap.size,1,none⟩ = some (.string bd)∧Below w.heap.size w w')
    ((go_split_ands; first
     | exact keepT (Below.refl _ _).drew p0 p1 hbW hCW
     | exact keepT hb5 (by assumption) (by assumption) (by assumption) (Below.size (by assumption))
     | exact keepT ((Below.refl _ _).alloc (Nat.le_refl _) _) (by assumption) (by assumption) (by assumption) (Below.size (by assumption))
     | exact keepG hg6 (by assumption) (by assumption) (by assumption) (Below.size (by assumption)) (HR3.out _ (Nat.le_refl _)) HC3.out
     | exact keepG hg7 (by assumption) (by assumption) (by assumption) (Below.size (by assumption)) hr6 hc6))
    (first
     | (go_at_call 87; refine (bsays_any (.slice AH fs.length capH) fs _ HHs.out (HFl.out.below (by first | exact (Below.refl W.heap.size W).drew | exact ((Below.refl W.heap.size W).alloc (Nat.le_refl _) _).drew) (Nat.le_refl _))).mono ?_; rintro e w5 ⟨u5,rfl,hO5,hb5⟩)
     | (refine step_appM _ (by rfl) (.tmp 20) (.tmp 23) (by rfl) w.heap.size _ u3 u5 LL (fs.map (·.2)) (by rfl) (by first | exact OwnS.below HOA.out ((Below.refl W.heap.size W).drew.trans hb5) (Nat.le_refl _) | exact World.ownsRow.alloc (OwnS.below HOA.out ((Below.refl W.heap.size W).drew.trans hb5) (Nat.le_refl _)) _ | exact OwnS.below (World.ownsRow.alloc HOA.out _) ((Below.refl _ _).drew.trans hb5) (Nat.le_refl _)) (by rfl) (by first | exact hO5 | exact World.ownsRow.alloc hO5 _) (by have:=HLn.out; have:=HPl.out; omega) (by have:=hb5.size; first | (simp at this ⊢; omega) | (simp at this; omega)) ?_; intro v6 w6 hO6 hg6 hk6; have hr6:v6.ownBlock ≠ some wr.heap.size:=(by have hs5:=hb5.size; rcases hk6 with hk | hk <;> rw [hk] <;> first | exact HR3.out _ (Nat.le_refl _) | (simp at hs5 ⊢; omega)); have hc6:∀ k,v6.ownBlock = some k → w.heap.size ≤ k:=(fun k e=>(World.ownsRow.lt hO6 k e).1); have hs6:=hg6.size)
     | (refine step_appS _ (by rfl) (.tmp 24) (.tmp 27) (by rfl) w.heap.size v6 (LL++fs.map (·.2)) (by rfl) (by first | exact hO6 | exact World.ownsRow.alloc hO6 _) _ _ bd (by rfl) (by first | (simp; done) | exact grown_cellQ hg6 (HR3.out _ (by have:=hb5.size; simp at this; omega)) (by simp; done) | exact grown_cellQ hg6 (HR3.out _ (by omega)) ((hb5.cell (p:=⟨W.heap.size,0,none⟩) (by simp)).trans (by simp))) (by have:=HLn.out; have:=HPl.out; rw [List.length_append]; omega) (by have:=hb5.size; first | (simp at this hs6 ⊢; omega) | (simp at this hs6; omega) | omega) ?_; intro v7 w7 hO7 hg7 hk7)
     | fail)
   all_goals
    have HO7:Box (OwnS w7 w.heap.size v7 (hl.map (·.2)++saysTo ps (j+1))):=⟨by rw [HNx.out]; exact hO7⟩
    go_split_ands
    clear hO7 hg7 hk7 hg6 hk6 hr6 hc6 hO6 hO5 hb5 hs6 HNx HR3 HC3 HOA HFl HHs
    go_wp2
    go_roundw
    case rel=>exact ⟨j+1,by omega,by go_num,HO7,by assumption⟩
    case measure=>simp [intOf]; omega
  ·have HE:Box (hl.map (·.2)++saysTo ps j = hl.map (·.2)++saysTo ps ps.length):=⟨by
    unfold saysTo
    rw [List.take_of_length_le (by omega),List.take_of_length_le (Nat.le_refl _)]⟩
   rw [HE.out] at HO
   clear HE
   rcases HO.out.shape with ⟨rfl,_⟩ | ⟨g2,cap2,rfl,_⟩
   all_goals
    go_wp2
    go_ret
    exact ⟨_,rfl,HO.out,hb⟩
end Go.Proofs.YtknhacbfddggpaaGreatDoor
namespace Go.Proofs.YtknhacbfddggpaaGreatDoor
open Go.RowKit Go.Proofs.Px
set_option maxHeartbeats 1000000 in
theorem clMark_any (s m:ByteArray) (g:Nat) (w:World) (hs:s.size ≤ 1000000) (hx:Max w) (hc:w.cell? ⟨g,0,none⟩ = some (.string m)) :
  Calls Tryz.prog 49 #[.string s,.pointer (some ⟨g,0,none⟩)] w fun e w'=>e = .returned (.bool (Lib.contains s.data.toList m.data.toList))∧Below w.heap.size w w':=by
 obtain ⟨_,mm,hmm⟩:=hx
 have HK:=Box.mk (Tryz.strings_Contains s m mm w (by omega) hmm)
 clear hmm
 go_enter Tryz.func49,Tryz.ntmps49
 go_wp2_with fail
 refine HK.out.mono ?_
 rintro e w1 ⟨rfl,hw1⟩
 obtain rfl:=hw1.symm
 clear HK
 go_wp2
 go_ret
 exact ⟨rfl,Below.refl _ _⟩
set_option maxHeartbeats 4000000 in
set_option maxRecDepth 100000 in
theorem idxMark (x1:Value) (p:ByteArray → Bool) (A:Option Addr) (cap:Nat) (ps:List ByteArray) (w:World) (hX:TL w (.slice A ps.length cap) ps) (hlen:ps.length ≤ 10000000) (hc:∀ q ∈ ps,∀ w1,Below w.heap.size w w1 → Calls Tryz.prog 49 #[.string q,x1] w1 fun e w2=>e = .returned (.bool (p q))∧Below w1.heap.size w1 w2) :
  Calls Tryz.prog 89 #[.slice A ps.length cap,.func (.func 49) #[] #[x1]] w fun e w'=>e = .returned (idxV (ps.findIdx? p))∧Below w.heap.size w w':=by
 obtain ⟨R,HR⟩:∃ R,Box (ps.findIdx? p = R):=⟨_,⟨rfl⟩⟩
 rw [HR.out]
 obtain ⟨A',cap',hv,hcap,hcell⟩:=hX
 simp only [Value.slice.injEq,true_and] at hv
 obtain ⟨rfl,rfl⟩:=hv
 have HX:=Box.mk hcell
 have HC:=Box.mk hc
 clear hcell hc
 go_enter Tryz.func89,Tryz.ntmps89
 go_wp2
 go_loopg [8] ps.length (fun gf i wx=>∃ k:Nat,k ≤ ps.length∧i = .int .i64 k∧Below w.heap.size w wx∧Box (∀ j (hj:j < ps.length),j < k → p ps[j] = false)∧ps.length - k ≤ gf)
 case atStart=>exact ⟨0,Nat.zero_le _,rfl,Below.refl _ _,⟨fun j _ h=>absurd h (by omega)⟩,by omega⟩
 case round =>
  obtain ⟨k,hk,rfl,hb,HA,hgf⟩:=hrel
  by_cases hlt:k < ps.length
  ·obtain ⟨g,off,e1,hx0⟩:=HX.out k hlt
   subst e1
   have hx:wr.cell? ⟨g,off+k,none⟩ = some (.string ps[k]):=(hb.cell (p:=⟨g,off+k,none⟩) (World.block_lt_of_cell? w _ hx0)).trans hx0
   have HLT:=Box.mk hlt
   have HCL:=Box.mk (HC.out ps[k] (List.getElem_mem hlt) wr hb)
   cases hq:p ps[k]
   ·have HA':Box (∀ j (hj:j < ps.length),j < k+1 → p ps[j] = false):=⟨fun j hj hjk=>by
     by_cases h:j = k
     ·subst h; exact hq
     ·exact HA.out j hj (by omega)⟩
    rw [hq] at HCL
    obtain ⟨q,hp⟩:∃ q,ps[k] = q:=⟨_,rfl⟩
    rw [hp] at hx HCL
    clear HC HA hq hp hx0
    go_wp2_with fail
    refine HCL.out.mono ?_
    rintro e w1 ⟨rfl,hb1⟩
    clear HCL
    go_wp2
    go_roundg (ps.length - (k+1))
    case measure=>have:=HLT.out; omega
    case rel=>exact ⟨k+1,HLT.out,by go_num,hb.trans (hb1.mono hb.size),HA',by have:=HLT.out; omega⟩
   ·have HE:Box (R = some k):=⟨by
     rw [← HR.out]
     exact findIdx_at p ps k hlt hq (fun j hj=>HA.out j (by omega) hj)⟩
    rw [hq] at HCL
    obtain ⟨q,hp⟩:∃ q,ps[k] = q:=⟨_,rfl⟩
    rw [hp] at hx HCL
    clear HC HA hq hp hx0
    go_wp2_with fail
    refine HCL.out.mono ?_
    rintro e w1 ⟨rfl,hb1⟩
    clear HCL
    go_wp2
    go_ret
    exact ⟨by rw [HE.out]; rfl,hb.trans (hb1.mono hb.size)⟩
  ·have HE:Box (R = none):=⟨by
    rw [← HR.out,List.findIdx?_eq_none_iff]
    intro q hq
    obtain ⟨j,hj,rfl⟩:=List.mem_iff_getElem.1 hq
    exact HA.out j hj (by omega)⟩
   clear HC HX HA
   go_wp2
   go_ret
   exact ⟨by rw [HE.out]; rfl,hb⟩
set_option maxHeartbeats 1000000 in
theorem anyMark (x1:Value) (p:ByteArray → Bool) (A:Option Addr) (cap:Nat) (ps:List ByteArray) (w:World) (hX:TL w (.slice A ps.length cap) ps) (hlen:ps.length ≤ 10000000) (hc:∀ q ∈ ps,∀ w1,Below w.heap.size w w1 → Calls Tryz.prog 49 #[.string q,x1] w1 fun e w2=>e = .returned (.bool (p q))∧Below w1.heap.size w1 w2) :
  Calls Tryz.prog 50 #[.slice A ps.length cap,.func (.func 49) #[] #[x1]] w fun e w'=>e = .returned (.bool (ps.any p))∧Below w.heap.size w w':=by
 have HI:=Box.mk (idxMark x1 p A cap ps w hX hlen hc)
 obtain ⟨R,HR⟩:∃ R,Box (ps.findIdx? p = R):=⟨_,⟨rfl⟩⟩
 have HA:Box (ps.any p = R.isSome):=⟨by rw [← HR.out,List.findIdx?_isSome]⟩
 rw [HA.out]
 rw [HR.out] at HI
 clear hX hc HR HA
 go_enter Tryz.func50,Tryz.ntmps50
 go_wp2_with fail
 refine HI.out.mono ?_
 rintro e w1 ⟨rfl,hb1⟩
 clear HI
 cases R with
 | none =>
  simp only [idxV]
  go_wp2
  go_ret
  exact ⟨rfl,hb1⟩
 | some i =>
  have k0:(0:Int) ≤ (i:Int):=by omega
  simp only [idxV]
  go_wp2
  go_ret
  exact ⟨rfl,hb1⟩
end Go.Proofs.YtknhacbfddggpaaGreatDoor
namespace Go.Proofs.YtknhacbfddggpaaGreatDoor
open Go.RowKit Go.Proofs.Px
def standsM (xs:List (List UInt8)) (n:Nat):Bool:=xs.any fun x=>Lib.contains x (markB n)
theorem missM (xs:List (List UInt8)) (k:Nat) (h:xs.flatten.length < 9 * 10 ^ k):∃ n,n < 10 ^ (k+1)∧standsM xs n = false:=by
 have hk:0 < 10 ^ k:=Nat.pow_pos (by decide)
 apply Classical.byContradiction
 intro hc
 have hall:∀ n,n < 10 ^ (k+1) → standsM xs n = true:=fun n hn=>by
  cases hs:standsM xs n
  ·exact absurd ⟨n,hn,hs⟩ hc
  ·rfl
 have key:∀ n,10 ^ k ≤ n → n < 10 ^ k+(xs.flatten.length+1) → n ∈ (List.range xs.flatten.length).map fun p=>decVal ((xs.flatten.drop (p+2)).take (k+1)):=by
  intro n h1 h2
  have hn:n < 10 ^ (k+1):=by rw [Nat.pow_succ]; omega
  have hs:=hall n hn
  unfold standsM at hs
  rw [List.any_eq_true] at hs
  obtain ⟨x,hx,hin⟩:=hs
  obtain ⟨u,v,e⟩:=(contains_iff _ _).1 hin
  obtain ⟨A,B,hAB⟩:=List.append_of_mem hx
  have hF:xs.flatten = (A.flatten++u)++(markB n++(v++B.flatten)):=by rw [hAB,List.flatten_append,List.flatten_cons,e]; simp
  rw [List.mem_map]
  refine ⟨(A.flatten++u).length,List.mem_range.2 ?_,?_⟩
  ·rw [hF,List.length_append]
   simp only [markB,List.length_append,List.length_cons]
   omega
  ·have hd:xs.flatten.drop ((A.flatten++u).length+2) = Lib.decDigits n++(v++B.flatten):=by
    rw [hF,← List.drop_drop,List.drop_left]
    rfl
   have hl:(Lib.decDigits n).length = k+1:=by rw [Lib.decDigits_length,Lib.nDigits_unique k n h1 hn]
   show decVal ((xs.flatten.drop ((A.flatten++u).length+2)).take (k+1)) = n
   rw [hd,← hl,List.take_left,decVal_digits]
 have:=pigeon (xs.flatten.length+1) _ (10 ^ k) key
 rw [List.length_map,List.length_range] at this
 omega
theorem missM_end (xs:List (List UInt8)) (n:Nat) (h:standsM xs n = false):∀ x ∈ xs,Apart (markB n) x:=by
 intro x hx
 refine contains_not _ _ ?_
 unfold standsM at h
 rw [List.any_eq_false] at h
 simpa using h x hx
theorem least_no (f:Nat → Bool):∀ n,f n = false → ∃ m,m ≤ n∧f m = false∧∀ j,f j = false → m ≤ j:=by
 intro n
 induction n using Nat.strongRecOn with
 | _ n ih =>
  intro h
  by_cases hx:∃ j,j < n∧f j = false
  ·obtain ⟨j,hj,hf⟩:=hx
   obtain ⟨m,h1,h2,h3⟩:=ih j hj hf
   exact ⟨m,by omega,h2,h3⟩
  ·refine ⟨n,Nat.le_refl _,h,fun j hj=>?_⟩
   by_cases hl:n ≤ j
   ·exact hl
   ·exact absurd ⟨j,by omega,hj⟩ hx
set_option maxHeartbeats 2000000 in
set_option maxRecDepth 100000 in
theorem freeMark_any {w:World} {b:Nat} {hv:Value} {hl:List Fl} {A:Option Addr} {cap:Nat} {ps:List XP} {root:Nat} (h:BN w b hv hl A cap ps root) (hm:Max w) (ht:Tab w) (hT:((hl.map (·.2)++saysTo ps ps.length).map lst).flatten.length < 9000000) :
  Calls Tryz.prog 21 #[.pointer (some ⟨b,0,none⟩)] w fun e w'=>∃ (m:ByteArray) (k:Nat),e = .returned (.string m)∧m.data.toList = markB k∧m.size ≤ 12∧(∀ x ∈ hl.map (·.2)++saysTo ps ps.length,Apart (markB k) x.data.toList)∧(∀ j,standsM ((hl.map (·.2)++saysTo ps ps.length).map lst) j = false → k ≤ j)∧Below w.heap.size w w':=by
 have HTx:=Box.mk (btexts_any h)
 have HLen:Box ((hl.map (·.2)++saysTo ps ps.length).length ≤ 10000000):=⟨by
  have h1:=saysTo_len ps ps.length (fun p hp=>(h.xl.sm p hp).hs.1) h.xl.len
  have h2:=h.hs.1
  rw [List.length_append,List.length_map]
  omega⟩
 have HSz:Box (∀ x ∈ hl.map (·.2)++saysTo ps ps.length,x.size ≤ 1000000):=⟨fun x hx=>by
  rcases List.mem_append.1 hx with hx | hx
  ·obtain ⟨f,hf,rfl⟩:=List.mem_map.1 hx
   have:=(h.hs.2 f hf).2
   omega
  ·unfold saysTo at hx
   rw [List.take_of_length_le (Nat.le_refl _)] at hx
   obtain ⟨p,hp,hx⟩:=List.mem_flatMap.1 hx
   have hs:=h.xl.sm p hp
   rcases List.mem_append.1 hx with hx | hx
   ·obtain ⟨f,hf,rfl⟩:=List.mem_map.1 hx
    have:=(hs.hs.2 f hf).2
    omega
   ·rw [List.mem_singleton.1 hx]
    have:=hs.bs
    omega⟩
 obtain ⟨n9,hn9,hs9⟩:=missM _ 6 (show _ < 9 * 10 ^ 6 by omega)
 obtain ⟨n0,hle,hs0,hmin⟩:=least_no _ n9 hs9
 have hn0:n0 < 10 ^ 7:=by omega
 clear hs9 hn9 hle
 generalize hl.map (·.2)++saysTo ps ps.length = xs at HTx HLen HSz hs0 hT hmin ⊢
 have HN0:=Box.mk hs0
 have HMin:=Box.mk hmin
 have hn07:n0 < 10000000:=hn0
 have HM:=Box.mk hm
 have HT:=Box.mk ht
 have hw0:=hm.1
 clear h hm ht hs0 hn0 hT hmin
 go_enter Tryz.func21,Tryz.ntmps21
 go_wp2_with fail
 refine HTx.out.mono ?_
 rintro e w1 ⟨v1,rfl,hO1,hb1⟩
 obtain ⟨A1,cp1,hv1⟩:∃ A1 cp1,v1 = .slice A1 xs.length cp1:=by
  rcases hO1.shape with ⟨h1,h2⟩ | ⟨g,cg,h1,_⟩
  ·exact ⟨none,0,by rw [h1,h2]; rfl⟩
  ·exact ⟨_,_,h1⟩
 subst hv1
 have HO1:=Box.mk (OwnS.tl hO1)
 clear hO1 HTx
 go_wp2
 go_loopw [4] (fun i wr=>∃ k:Nat,i = .int .i64 k∧k ≤ n0∧Below w1.heap.size w1 wr) (fun i _=>n0+1 - (intOf i).toNat)
 case atStart=>exact ⟨0,rfl,Nat.zero_le _,Below.refl _ _⟩
 case round =>
  obtain ⟨k,rfl,hk,hbr⟩:=hrel
  have hb0r:=hb1.trans (hbr.mono hb1.size)
  have HTr:=Box.mk (HT.out.below hb0r HT.out.lt)
  go_wp2_with fail
  refine (itoa_any k _ (by omega) HTr.out).mono ?_
  rintro e w2 ⟨rfl,hb2⟩
  have hdl:(Lib.decDigits k).length ≤ 10:=by
   rw [Lib.decDigits_length]
   exact nDigits_le 9 k (by omega)
  obtain ⟨D,HD⟩:∃ D:ByteArray,Box (D = ⟨(Lib.decDigits k).toArray⟩):=⟨_,⟨rfl⟩⟩
  rw [← HD.out]
  have hds:D.size ≤ 10:=by rw [← size_list,HD.out]; exact hdl
  obtain ⟨E,HE⟩:∃ E:ByteArray,Box (E = ⟨#[64,98]⟩++D):=⟨_,⟨rfl⟩⟩
  have HEl:Box (E.data.toList = markB k):=⟨by rw [HE.out,HD.out]; simp [markB]⟩
  have hes:E.size ≤ 12:=by rw [HE.out,ByteArray.size_append]; show 2+D.size ≤ _; omega
  have hsum:¬ 9223372036854775807 < 2+D.size:=by omega
  have hb12:=hbr.trans (hb2.mono hbr.size)
  have hba:=below_oneP w2 (.cells #[.string E] 9)
  have hb13:=hb12.trans (hba.mono hb12.size)
  have hb03:=hb1.trans (hb13.mono hb1.size)
  have hE0:(w2.alloc (.cells #[.string E] 9)).cell? ⟨w2.heap.size,0,none⟩ = some (.string E):=cell_one (heap_oneP w2 (.cells #[.string E] 9))
  have HCt:=Box.mk (anyMark (.pointer (some ⟨w2.heap.size,0,none⟩)) (fun x=>Lib.contains x.data.toList E.data.toList) A1 cp1 xs _ (HO1.out.below hb13) HLen.out (fun q hq w3 hb3=>clMark_any q E w2.heap.size w3 (HSz.out q hq) ((HM.out.below hb03 hw0).below hb3 (HM.out.below hb03 hw0).1) ((hb3.cell (p:=⟨w2.heap.size,0,none⟩) (by simp)).trans hE0)))
  have hst:(xs.any fun x=>Lib.contains x.data.toList E.data.toList) = standsM (xs.map lst) k:=by
   rw [HEl.out]
   unfold standsM
   rw [List.any_map]
   rfl
  rw [hst] at HCt
  clear hst
  cases hq:standsM (xs.map lst) k
  ·have HU:Box (∀ x ∈ xs,Apart (markB k) x.data.toList):=⟨fun x hx=>missM_end _ k hq (lst x) (List.mem_map_of_mem hx)⟩
   rw [hq] at HCt
   clear HD HO1 HM HT HTr HN0 hq HLen HSz
   go_wp2_with fail
   rw [← HE.out]
   refine HCt.out.mono ?_
   rintro e w4 ⟨rfl,hb4⟩
   have hE4:=(hb4.cell (p:=⟨w2.heap.size,0,none⟩) (by simp)).trans hE0
   go_wp2
   go_ret
   exact ⟨E,k,rfl,HEl.out,hes,HU.out,fun j hj=>Nat.le_trans hk (HMin.out j hj),hb03.trans (hb4.mono hb03.size)⟩
  ·have hkn:k+1 ≤ n0:=by
    have h1:k ≠ n0:=fun e=>by
     have:=HN0.out
     rw [← e,hq] at this
     cases this
    omega
   rw [hq] at HCt
   clear HD HTr hq
   go_wp2_with fail
   rw [← HE.out]
   refine HCt.out.mono ?_
   rintro e w4 ⟨rfl,hb4⟩
   go_wp2
   go_roundw
   case rel=>exact ⟨k+1,by go_num,hkn,hb13.trans (hb4.mono hb13.size)⟩
   case measure=>simp [intOf]; omega
end Go.Proofs.YtknhacbfddggpaaGreatDoor
