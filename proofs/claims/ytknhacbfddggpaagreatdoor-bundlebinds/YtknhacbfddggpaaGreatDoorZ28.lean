import Derived.Test.YtknhacbfddggpaaGreatDoorZ27
import Derived.Deep.RegionHeld3
namespace Go.Proofs.YtknhacbfddggpaaGreatDoor
open Go.RowKit
def ldObj:Obj:=.cells #[.string ⟨#[]⟩,.int .i64 0] 46
abbrev ldVal (S:ByteArray) (o:Option Nat):Value:=.agg #[.string S,idxV o]
theorem xc_of {w:World} {g:Nat} {p:XP} (h:w.heap[g]? = some (xobj p)):XC w g 0 p:=by
 unfold xobj at h
 exact ⟨by simp [World.cell?,h],by simp [World.cell?,h],by simp [World.cell?,h],by simp [World.cell?,h],by simp [World.cell?,h],by simp [World.cell?,h],by simp [World.cell?,h],by simp [World.cell?,h],by simp [World.cell?,h],by simp [World.cell?,h],by simp [World.cell?,h]⟩
theorem ld_of {w:World} {g:Nat} (h:w.heap[g]? = some ldObj):w.cell? ⟨g,0,none⟩ = some (.string ⟨#[]⟩)∧w.cell? ⟨g,1,none⟩ = some (.int .i64 0)∧∀ i,w.frozen? ⟨g,i,none⟩ = false:=by
 unfold ldObj at h
 exact ⟨by simp [World.cell?,h],by simp [World.cell?,h],fun i=>by simp [World.frozen?,h]⟩
theorem Blk.set {w:World} {g k i:Nat} {v0 v1 v2 v3 v4 v5 v6 v7:Value} (h:Blk w g v0 v1 v2 v3 v4 v5 v6 v7) (hk:g ≠ k) (v:Value):Blk (w.setCell ⟨k,i,none⟩ v) g v0 v1 v2 v3 v4 v5 v6 v7:=by
 have key:∀ (j:Nat) (u:Value),w.cell? ⟨g,j,none⟩ = some u → (w.setCell ⟨k,i,none⟩ v).cell? ⟨g,j,none⟩ = some u:=fun j u hu=>(World.cell?_setCell_far w ⟨k,i,none⟩ ⟨g,j,none⟩ v (fun e=>hk e.symm)).trans hu
 exact ⟨key _ _ h.c0,key _ _ h.c1,key _ _ h.c2,key _ _ h.c3,key _ _ h.c4,key _ _ h.c5,key _ _ h.c6,key _ _ h.c7,fun x=>(World.frozen?_setCell _ _ _ _).trans (h.fz x)⟩
theorem keep8 {a w':World} {C g:Nat} {v0 v1 v2 v3 v4 v5 v6 v7:Value} (h:Blk w' g v0 v1 v2 v3 v4 v5 v6 v7) (hb:Below C a w'):w'.cell? ⟨g,0,none⟩ = some v0∧w'.cell? ⟨g,1,none⟩ = some v1∧w'.cell? ⟨g,2,none⟩ = some v2∧w'.cell? ⟨g,3,none⟩ = some v3∧w'.cell? ⟨g,4,none⟩ = some v4∧w'.cell? ⟨g,5,none⟩ = some v5∧w'.cell? ⟨g,6,none⟩ = some v6∧w'.cell? ⟨g,7,none⟩ = some v7∧Below C a w':=
 ⟨h.c0,h.c1,h.c2,h.c3,h.c4,h.c5,h.c6,h.c7,hb⟩
set_option maxHeartbeats 4000000 in
set_option maxRecDepth 100000 in
theorem blead_any {w:World} {b:Nat} {hv:Value} {hl:List Fl} {A:Option Addr} {cap:Nat} {ps:List XP} {root:Nat} (h:BN w b hv hl A cap ps root) (p:XP) (hp:p.loc.Small 270000) (s:ByteArray) (hs:s.size ≤ 100000) (hm:Max w) :
  Calls Tryz.prog 31 #[.pointer (some ⟨b,0,none⟩),p.val,.string s] w fun e w'=>∃ S,e = .returned (ldVal S (leadB (ps.map XP.bp) p.loc.ab s.data.toList).2)∧S.data.toList = (leadB (ps.map XP.bp) p.loc.ab s.data.toList).1∧Below w.heap.size w w':=by
 have hw0:=hm.1
 have hW0:Below w.heap.size w ((w.alloc (xobj p)).alloc ldObj):=((Below.refl _ _).alloc (Nat.le_refl _) _).alloc (by simp) _
 have hh:=heap_two w (xobj p) ldObj
 have hz:((w.alloc (xobj p)).alloc ldObj).heap.size = w.heap.size+2:=by simp
 have HM:=Box.mk hm
 have HB:=Box.mk h
 have HM1:=Box.mk (HM.out.below hW0 hw0)
 obtain ⟨R,HR⟩:∃ R,Box (leadB (ps.map XP.bp) p.loc.ab s.data.toList = R):=⟨_,⟨rfl⟩⟩
 rw [HR.out]
 have HX:Box (∀ w':World,w'.heap[w.heap.size]? = some (xobj p) → XC w' w.heap.size 0 p):=⟨fun w' h'=>xc_of h'⟩
 obtain ⟨hd,fs,bd,id,⟨b0,b1,b2,b3,b4,b5,b6,b7⟩⟩:=p
 have HP:=Box.mk hp
 clear hm h hp
 unfold xobj at hW0 hh hz HM1 HX
 simp only at hW0 hh hz HM1 HX
 unfold ldObj at hW0 hh hz HM1
 go_enter Tryz.func31,Tryz.ntmps31
 go_wp2_with fail
 refine (aread_is s _ (by omega) HM1.out).mono ?_
 rintro e w1 ⟨rfl,hs1,hb1⟩
 have hb01:=hW0.trans (hb1.mono hW0.size)
 have hx1:=heap_in hb1 hh.1
 have hl1:=heap_in hb1 hh.2
 cases hr:readA s.data.toList with
 | none =>
  obtain ⟨h1,h2⟩:=readV_none hr
  rw [h1,h2]
  have HR2:Box (R = (s.data.toList,none)):=⟨by rw [← HR.out]; unfold leadB; rw [hr]⟩
  have hl2:(w1.alloc (obj8 ⟨#[]⟩ false ⟨#[]⟩ ⟨#[]⟩ false ⟨#[]⟩ false ⟨#[]⟩)).heap[w.heap.size+1]? = _:=heap_in ((Below.refl w1.heap.size w1).alloc (Nat.le_refl _) _) hl1
  obtain ⟨y0,y1,yf⟩:=ld_of hl2
  clear HR hr h1 h2 hs1 hx1 hl1 hl2 hh HX
  go_wp2
  refine bodyPost_ret (v:=ldVal s none) (by simp [results,Tryz.results31,go_sem,y0,y1,idxV]) rfl ⟨s,by rw [HR2.out],by rw [HR2.out],?_⟩
  iterate 2 (refine Below.setCell ?_ (by simp <;> omega) _)
  exact hb01.trans (((Below.refl w1.heap.size w1).alloc (Nat.le_refl _) _).mono hb01.size)
 | some a =>
  obtain ⟨h1,h2⟩:=readV_some (v:=AV.of a) (by rw [ab_of]; exact hr)
  rw [h1] at hs1
  rw [h1,h2]
  have HR2:Box (R = (writeA (resA (AV.ab ⟨b0,b1,b2,b3,b4,b5,b6,b7⟩) a),findB (ps.map XP.bp) (resA (AV.ab ⟨b0,b1,b2,b3,b4,b5,b6,b7⟩) a))):=⟨by rw [← HR.out]; unfold leadB; rw [hr]⟩
  rw [← ab_of a] at HR2
  generalize AV.of a = v at hs1 HR2 ⊢
  obtain ⟨v0,v1,v2,v3,v4,v5,v6,v7⟩:=v
  clear HR hr h1 h2
  have hbA:Below w1.heap.size w1 (w1.alloc (obj8 v0 v1 v2 v3 v4 v5 v6 v7)):=(Below.refl _ _).alloc (Nat.le_refl _) _
  have hx2:=heap_in hbA hx1
  have hl2:=heap_in hbA hl1
  have hl1':=hl1
  obtain ⟨d0,d1,d2,d3,d4,d5,d6,d7,d8,d9,da⟩:=HX.out _ hx2
  simp only [Nat.zero_add] at d0 d1 d2 d3 d4 d5 d6 d7 d8 d9 da
  have hg2:=heap_newN w1 (obj8 v0 v1 v2 v3 v4 v5 v6 v7)
  have hb02:=hb01.trans (hbA.mono hb01.size)
  have HM2:=Box.mk (HM.out.below hb02 hw0)
  clear hx1 hl1 hx2 hh HX hW0 hb1 HM1 hz d0 d1 d2
  go_wp2_with fail
  have hps:b3.size ≤ 270000:=HP.out.pa
  have hvs:v3.size ≤ 100000:=Nat.le_trans hs1.pa hs
  refine (ares_any ⟨b0,b1,b2,b3,b4,b5,b6,b7⟩ ⟨v0,v1,v2,v3,v4,v5,v6,v7⟩ _ (by show b3.size ≤ _; omega) (by show v3.size ≤ _; omega) HM2.out).mono ?_
  rintro e w3 ⟨rfl,hb3⟩
  have hrs:=resV_small HP.out (a:=⟨v0,v1,v2,v3,v4,v5,v6,v7⟩) (n:=270000) ⟨Nat.le_trans hs1.sc (by omega),Nat.le_trans hs1.au (by omega),Nat.le_trans hs1.pa (by omega),Nat.le_trans hs1.qu (by omega),Nat.le_trans hs1.fr (by omega)⟩
  have hra:=resV_ab ⟨b0,b1,b2,b3,b4,b5,b6,b7⟩ ⟨v0,v1,v2,v3,v4,v5,v6,v7⟩
  have HR3:=HR2
  rw [← hra] at HR3
  generalize resV ⟨b0,b1,b2,b3,b4,b5,b6,b7⟩ ⟨v0,v1,v2,v3,v4,v5,v6,v7⟩ = r at hrs HR3 ⊢
  obtain ⟨x0,x1,x2,x3,x4,x5,x6,x7⟩:=r
  have hb03:=hb02.trans (hb3.mono hb02.size)
  have hg3:=heap_in hb3 hg2
  have hl3:=heap_in hb3 hl2
  obtain ⟨y0,y1,y2,y3,y4,y5,y6,y7,yf⟩:=blk_of hg3
  have hg4:=set8_heap hg3 (.string x0) (.bool x1) (.string x2) (.string x3) (.bool x4) (.string x5) (.bool x6) (.string x7)
  have hb4:=set8_below hb03 hb01.size (.string x0) (.bool x1) (.string x2) (.string x3) (.bool x4) (.string x5) (.bool x6) (.string x7)
  have hlt:w.heap.size+1 < w1.heap.size:=(Array.getElem?_eq_some_iff.1 hl1').1
  have hl4:=((set8_below (Below.refl w1.heap.size w3) (Nat.le_refl _) (.string x0) (.bool x1) (.string x2) (.string x3) (.bool x4) (.string x5) (.bool x6) (.string x7)).block (w.heap.size+1) hlt).trans hl3
  clear HR2 hra hg2 hg3 hl2 hl3 hbA d3 d4 d5 d6 d7 d8 d9 da hs1 HM2 hl1'
  go_wp2_with fail
  generalize (((((((w3.setCell ⟨w1.heap.size,0,none⟩ (.string x0)).setCell ⟨w1.heap.size,1,none⟩ (.bool x1)).setCell ⟨w1.heap.size,2,none⟩ (.string x2)).setCell ⟨w1.heap.size,3,none⟩ (.string x3)).setCell ⟨w1.heap.size,4,none⟩ (.bool x4)).setCell ⟨w1.heap.size,5,none⟩ (.string x5)).setCell ⟨w1.heap.size,6,none⟩ (.bool x6)).setCell ⟨w1.heap.size,7,none⟩ (.string x7) = W at hg4 hb4 hl4 ⊢
  have HK:=Box.mk (blk_of hg4)
  have HBW:=Box.mk (HB.out.below hb4)
  have HL4:=Box.mk hl4
  have HRS:Box (AV.Small ⟨x0,x1,x2,x3,x4,x5,x6,x7⟩ 1000000):=⟨⟨Nat.le_trans hrs.sc (by omega),Nat.le_trans hrs.au (by omega),Nat.le_trans hrs.pa (by omega),Nat.le_trans hrs.qu (by omega),Nat.le_trans hrs.fr (by omega)⟩⟩
  clear y0 y1 y2 y3 y4 y5 y6 y7 yf hb3 hb03 hb02 hb01 hrs hg4 hl4 HB HM hps hvs
  have hne:w1.heap.size ≠ w.heap.size+1:=by omega
  obtain ⟨F,HF⟩:∃ F,Box (findB (ps.map XP.bp) (AV.ab ⟨x0,x1,x2,x3,x4,x5,x6,x7⟩) = F):=⟨_,⟨rfl⟩⟩
  obtain ⟨z,HZ⟩:∃ z,Box (idxV F = .int .i64 z):=by
   cases F with
   | none=>exact ⟨-1,⟨rfl⟩⟩
   | some i=>exact ⟨(i:Int),⟨rfl⟩⟩
  go_region_held3 (fun w'=>w'.cell? ⟨w1.heap.size,0,none⟩ = some (.string x0)∧w'.cell? ⟨w1.heap.size,1,none⟩ = some (.bool x1)∧w'.cell? ⟨w1.heap.size,2,none⟩ = some (.string x2)∧w'.cell? ⟨w1.heap.size,3,none⟩ = some (.string x3)∧w'.cell? ⟨w1.heap.size,4,none⟩ = some (.bool x4)∧w'.cell? ⟨w1.heap.size,5,none⟩ = some (.string x5)∧w'.cell? ⟨w1.heap.size,6,none⟩ = some (.bool x6)∧w'.cell? ⟨w1.heap.size,7,none⟩ = some (.string x7)∧Below w.heap.size w w')
   ((go_split_ands; first | exact keep8 (HK.out.below (Below.refl _ _).drew) hb4.drew | exact keep8 (HK.out.below ((Below.refl _ _).drew.trans hb5)) (hb4.trans (((Below.refl _ _).drew.trans hb5).mono hb4.size)) | exact keep8 (HK.out.below hbW6) (hb4.trans (hbW6.mono hb4.size)) | exact keep8 (((HK.out.below hbW6).set hne _).set hne _) (((hb4.trans (hbW6.mono hb4.size)).setCell (Nat.le_succ _) _).setCell (Nat.le_succ _) _)))
   (first
    | (go_at_call 67; refine (awrite_any ⟨x0,x1,x2,x3,x4,x5,x6,x7⟩ _ HRS.out).mono ?_; rintro e w5 ⟨rfl,hb5⟩)
    | (go_at_call 68; refine (bfind_any (HBW.out.below (by first | assumption | exact (Below.refl _ _).drew.trans hb5)) ⟨x0,x1,x2,x3,x4,x5,x6,x7⟩ HRS.out).mono ?_; rw [HF.out,HZ.out]; rintro e w6 ⟨rfl,hb6⟩; have hbW6:Below W.heap.size W w6:=((Below.refl W.heap.size W).drew.trans (hb5.trans (hb6.mono hb5.size))); obtain ⟨l0,l1,lf⟩:=ld_of (heap_in hbW6 HL4.out)))
  have hb06:=hb4.trans (hbW6.mono hb4.size)
  go_split_ands
  have HRz:Box (R = ((writeB ⟨x0,x1,x2,x3,x4,x5,x6,x7⟩).data.toList,F)):=⟨by rw [HR3.out,HF.out,writeB_list]⟩
  clear HR3 HF HK HBW HL4 HRS
  go_wp2
  refine bodyPost_ret (v:=ldVal (writeB ⟨x0,x1,x2,x3,x4,x5,x6,x7⟩) F) (by simp [results,Tryz.results31,go_sem,l0,l1,HZ.out]) rfl ⟨_,by rw [HRz.out],by rw [HRz.out],?_⟩
  iterate 2 (refine Below.setCell ?_ (Nat.le_succ _) _)
  exact hb06
end Go.Proofs.YtknhacbfddggpaaGreatDoor
namespace Go.Proofs.YtknhacbfddggpaaGreatDoor
open Go.RowKit
set_option maxHeartbeats 1000000 in
set_option maxRecDepth 100000 in
theorem clRoot_any (q:XP) (g:Nat) (s:ByteArray) (w:World) (hi:q.id.size ≤ 60000) (hc:w.cell? ⟨g,0,none⟩ = some (.string s)) :
  Calls Tryz.prog 45 #[q.val,.pointer (some ⟨g,0,none⟩)] w fun e w'=>e = .returned (.bool (decide (angledB q.id.data.toList = s.data.toList)))∧Below w.heap.size w w':=by
 have hbA:Below w.heap.size w (w.alloc (xobj q)):=(Below.refl _ _).alloc (Nat.le_refl _) _
 have hgA:=heap_newN w (xobj q)
 have c1:(w.alloc (xobj q)).cell? ⟨g,0,none⟩ = some (.string s):=(hbA.cell (p:=⟨g,0,none⟩) (World.block_lt_of_cell? w _ hc)).trans hc
 obtain ⟨hd,fs,bd,id,⟨a0,a1,a2,a3,a4,a5,a6,a7⟩⟩:=q
 have hX:=(xc_of hgA).c2
 simp only [Nat.zero_add] at hX
 unfold xobj at hbA c1 hX
 simp only at hbA c1 hX hi
 clear hc hgA
 have HAn:=Box.mk (angled_any id)
 obtain ⟨R,HR⟩:∃ R,Box (decide (angledB id.data.toList = s.data.toList) = R):=⟨_,⟨rfl⟩⟩
 rw [HR.out]
 go_enter Tryz.func45,Tryz.ntmps45
 go_wp2_with fail
 generalize w.alloc (.cells #[hd,.string bd,.string id,.string a0,.bool a1,.string a2,.string a3,.bool a4,.string a5,.bool a6,.string a7] 62) = W at hbA c1 hX ⊢
 go_region_held3 (fun w'=>w'.cell? ⟨w.heap.size,2,none⟩ = some (.string id)∧w'.cell? ⟨g,0,none⟩ = some (.string s)∧Below w.heap.size w w')
  ((go_split_ands; first
   | exact ⟨hX,c1,hbA.drew⟩
   | exact ⟨by assumption,by assumption,by assumption⟩))
  (first
   | (go_at_call 46; refine (HAn.out _ (by omega)).mono ?_; rintro e w5 ⟨t,rfl,ht,hts,rfl⟩)
   | fail)
 all_goals
  have HZ:Box ((t.toList == s.toList) = R):=⟨by rw [str_dec,ht,HR.out]⟩
  go_split_ands
  clear HAn HR
  go_wp2
  go_ret
  exact ⟨ret_bool HZ.out,by assumption⟩
theorem start_get (P:List Fl):startB (P.map pb2) = ((getP P stN).map (fun f:Fl=>f.2.data.toList)).getD []:=by
 unfold startB getP
 congr 1
 induction P with
 | nil=>rfl
 | cons f P ih =>
  rw [List.map_cons,List.find?_cons,List.find?_cons]
  have e:(pb2 f).1 = f.1.data.toList:=rfl
  rw [e]
  cases decide (f.1.data.toList = stN) with
  | true=>rfl
  | false=>exact ih
theorem max_zero (z:Int) (w:World):Sem.run Tryz.prog (Builtin.max_ #[3,3] 3 #[Value.int IntKind.i64 0,Value.int IntKind.i64 z]) w = Result.ok (Value.int IntKind.i64 (if 0 < z then z else 0)) w:=by
 simp [Builtin.max_,Builtin.max2]
theorem cell_first {w:World} {b:Nat} {v:Value} {t:TypeId} (h:w.heap[b]? = some (.cells #[v] t (0,0))):w.cell? ⟨b,0,none⟩ = some v:=by simp [World.cell?,h]
set_option maxHeartbeats 1000000 in
set_option maxRecDepth 100000 in
theorem rootOf_any (A:Option Addr) (cap:Nat) (ps:List XP) (v:Value) (P:List Fl) (w:World) (hX:XL w A ps) (hT:Hd P) (hF:FL w v P) :
  Calls Tryz.prog 20 #[.slice A ps.length cap,v] w fun e w'=>e = .returned (.int .i64 (rootB (ps.map XP.bp) (startB (P.map pb2)):Int))∧Below w.heap.size w w':=by
 have HK:=Box.mk (kget_any v P ⟨#[115,116,97,114,116]⟩ w hT.half.tiny hF)
 have hst:getP P (⟨#[115,116,97,114,116]⟩:ByteArray).data.toList = getP P stN:=rfl
 rw [hst] at HK
 have HS:=Box.mk (start_get P)
 obtain ⟨AP,capP,hvP,-⟩:=_root_.id hF
 subst hvP
 generalize startB (P.map pb2) = st at HS ⊢
 obtain ⟨sv,q,hg,hsv⟩:∃ (sv:ByteArray) (q:Bool),getV (getP P stN) = .tuple #[.string sv,.bool q]∧st = sv.data.toList:=by
  rw [HS.out]
  cases getP P stN with
  | none=>exact ⟨⟨#[]⟩,false,rfl,rfl⟩
  | some f=>exact ⟨f.2,true,rfl,rfl⟩
 rw [hg] at HK
 subst hsv
 obtain ⟨O,HO⟩:∃ O,Box ((ps.map XP.bp).findIdx? (fun p=>decide (angledB p.id = sv.data.toList)) = O):=⟨_,⟨rfl⟩⟩
 have HR:Box (rootB (ps.map XP.bp) sv.data.toList = O.getD 0):=⟨by unfold rootB; rw [HO.out]⟩
 rw [HR.out]
 have HX:=Box.mk hX
 clear hF hT hst hg HS hX HR
 go_enter Tryz.func20,Tryz.ntmps20
 go_wp2_with fail
 refine HK.out.mono ?_
 rintro e w1 ⟨rfl,hb1⟩
 have hbB:Below w1.heap.size w1 (w1.alloc (.cells #[.string sv] 9)):=(Below.refl _ _).alloc (Nat.le_refl _) _
 have hb2:=hb1.trans (hbB.mono hb1.size)
 have hcs:(w1.alloc (.cells #[.string sv] 9)).cell? ⟨w1.heap.size,0,none⟩ = some (.string sv):=cell_first (heap_newN w1 (.cells #[.string sv] 9))
 have HI:=Box.mk (idxRoot (.pointer (some ⟨w1.heap.size,0,none⟩)) (fun q=>decide (angledB q.id.data.toList = sv.data.toList)) A cap ps _ (HX.out.below hb2) (fun q hq w3 hb3=>clRoot_any q _ sv w3 (HX.out.sm q hq).is ((hb3.cell (p:=⟨w1.heap.size,0,none⟩) (by simp)).trans hcs)))
 have hO2:ps.findIdx? (fun q=>decide (angledB q.id.data.toList = sv.data.toList)) = O:=by
  rw [← HO.out,findIdx_bp]
  rfl
 rw [hO2] at HI
 clear HK HX HO hcs hO2
 go_wp2_with fail
 refine HI.out.mono ?_
 rintro e w4 ⟨rfl,hb4⟩
 have hbb:=hb2.trans (hb4.mono hb2.size)
 clear HI
 cases O with
 | none =>
  have hmx:Sem.run Tryz.prog (Builtin.max_ #[3,3] 3 #[Value.int IntKind.i64 0,idxV none]) w4 = Result.ok (Value.int IntKind.i64 0) w4:=max_zero (-1) w4
  go_wp2
  go_ret
  exact ⟨rfl,hbb⟩
 | some i =>
  have hmx:Sem.run Tryz.prog (Builtin.max_ #[3,3] 3 #[Value.int IntKind.i64 0,idxV (some i)]) w4 = Result.ok (Value.int IntKind.i64 (i:Int)) w4:=by
   rw [idxV,max_zero]
   congr 2
   split <;> omega
  go_wp2
  go_ret
  exact ⟨rfl,hbb⟩
end Go.Proofs.YtknhacbfddggpaaGreatDoor
