import Derived.Test.YtknhacbfddggpaaGreatDoorZ35
import Derived.Test.YtknhacbfddggpaaGreatDoorZ9
namespace Go.Proofs.YtknhacbfddggpaaGreatDoor
open Go.RowKit Go.Proofs.Px
set_option maxHeartbeats 2000000 in
set_option maxRecDepth 100000 in
theorem attr_link (b a u g k:Nat) (pg sm:ByteArray) (L:Value) (w:World) (h:PR w b pg sm a L) (hG:GP w b) (hl:pg.size ≤ 100000000) (hsm:sm.data.toList = smallS pg.data.toList) (ha:a < pg.size) (hu:(a+1)+untilN attrA.data.toList sm.data.toList (a+1) = u) (hg:u+runN blanksA.data.toList sm.data.toList u = g) (hq:isAtB isA sm g = true) (hgl:g < pg.size) (hk:(g+1)+runN blanksA.data.toList sm.data.toList (g+1) = k) (v:List UInt8) (q:Bool) (hv:valS (pg.data.toList.drop k) = some (v,q)) (hn:linkNames.contains ((sm.data.toList.drop a).take (u - a)) = true) (ls:List Lk) (hO:OwnL w (b+1) L ls) (hls:ls.length+1 ≤ 1000000000) :
  Calls Tryz.prog 198 #[.pointer (some ⟨b,0,none⟩)] w fun e w'=>e = .returned (.tuple #[])∧∃ L' V,PR w' b pg sm (k+v.length+2 * qn q) L'∧OwnL w' (b+1) L' (ls++[(k+qn q,v.length,V)])∧V.data.toList = unescS v∧k+v.length+2 * qn q ≤ pg.size∧Below b w w':=by
 have hs:sm.size = pg.size:=by rw [← size_list,hsm,← size_list]; unfold smallS; simp
 obtain ⟨c0,c1,c2,c3,f2,f3,hb⟩:=h.cells
 have HU:=Box.mk hu
 have HG:=Box.mk hg
 have HQ:=Box.mk hq
 have HK:=Box.mk hk
 have HV:=Box.mk hv
 have HN:Box (linkNames.contains (sm.extract a u).data.toList = true):=⟨by rw [extract_list]; exact hn⟩
 have HS:=Box.mk hsm
 have HO:=Box.mk hO
 clear hO
 have HGP:=Box.mk hG
 have hau:a+1 ≤ u:=by omega
 have HP1:=Box.mk (h.setA (a+1))
 rw [Int.natCast_add] at HP1
 clear hu hg hq h hk hv hG hsm hn
 go_enter Tryz.func198,Tryz.ntmps198
 go_wp2_with fail
 refine (until_any b (a+1) pg sm attrA L _ HP1.out hl hs ha).mono ?_
 rw [HU.out]
 rintro e w2 ⟨rfl,hP2,hu2,hg2⟩
 have hg02:=(pgrown_set w b 2 (.int .i64 ((a:Int)+1))).trans hg2
 have HP2:=Box.mk hP2
 clear hP2 hg2 HP1 c0 c1 c2 c3 f2 f3
 obtain ⟨d0,d1,d2,d3,g2,g3,hb2⟩:=HP2.out.cells
 have k1:(0:Int) ≤ (a:Int):=by omega
 have k2:(a:Int) ≤ (u:Int):=by omega
 have k3:(u:Int) ≤ (sm.size:Int):=by omega
 go_wp2_with fail
 go_region
 go_wp2_with fail
 have HP3:=Box.mk (HP2.out.below (Below.refl w2.heap.size w2).drew hb2)
 have hg03:=hg02.trans (pgrown_of (Below.refl w2.heap.size w2).drew (some b))
 refine (skip_any b u pg sm blanksA L _ HP3.out hl hs hu2).mono ?_
 rw [HG.out]
 rintro e w4 ⟨rfl,hP4,hu4,hg4⟩
 have hg04:=hg03.trans hg4
 have HP4:=Box.mk hP4
 have hb4:=hP4.cells.2.2.2.2.2.2
 clear hP4 hg4 HP3 HP2 d0 d1 d2 d3 g2 g3
 go_wp2_with fail
 refine (isAt_any b g pg sm isA L _ HP4.out hs hu4).mono ?_
 rw [HQ.out]
 rintro e w5 ⟨rfl,hb5⟩
 have HP5:=Box.mk (HP4.out.below hb5 hb4)
 obtain ⟨d0,d1,d2,d3,g2,g3,hb6⟩:=HP5.out.cells
 have HP6:=Box.mk (HP5.out.setA (g+1))
 rw [Int.natCast_add] at HP6
 have hg06:=(hg04.trans (pgrown_of hb5 (some b))).trans (pgrown_set w5 b 2 (.int .i64 ((g:Int)+1)))
 go_wp2_with fail
 refine (skip_any b (g+1) pg sm blanksA L _ HP6.out hl hs hgl).mono ?_
 rw [HK.out]
 rintro e w7 ⟨rfl,hP7,hu7,hg7⟩
 have hg07:=hg06.trans hg7
 have HP7:=Box.mk hP7
 have HG7:=Box.mk (HGP.out.grown hg07)
 clear hP7 hg7 d0 d1 d2 d3 g2 g3 HP4 HP5 HP6
 go_wp2_with fail
 refine (value_any b k pg sm L _ HP7.out HG7.out.words HG7.out.n0 hl HS.out hu7).mono ?_
 rw [HV.out]
 rintro e w8 ⟨⟨V,rfl,hV⟩,hP8,hle,hg8⟩
 have hg08:=hg07.trans hg8
 have HP8:=Box.mk hP8
 have hb8:=hP8.cells.2.2.2.2.2.2
 have hA:∀ o:Obj,Below w8.heap.size w8 (w8.alloc o):=fun o=>(Below.refl _ _).alloc (Nat.le_refl _) o
 have HL8:Box (∀ o:Obj,Leads (w8.alloc o)):=⟨fun o=>((HG7.out.grown hg8).grown (pgrown_of (hA o) (some b))).leads⟩
 have HO8:=Box.mk (HO.out.kept hg08 (Nat.lt_succ_self b))
 have HV8:=Box.mk hV
 have hbw:=below_of_grown hg08 (Nat.le_of_lt hb)
 clear hP8 hg8 hV
 obtain ⟨A8,cap8,hL8,hc8⟩:=HO8.out.len
 subst hL8
 go_wp2_with (go_at_call 222; refine (isLeading_any _ _ (HL8.out _)).mono ?_; rw [HN.out]; rintro e w9 ⟨rfl,rfl⟩)
 have hA9:=hA (Obj.cells #[Value.int IntKind.i64 ((k:Int)+(qn q:Int)),Value.int IntKind.i64 (v.length:Int),Value.string V] 80)
 have p0:(w8.alloc (Obj.cells #[Value.int IntKind.i64 ((k:Int)+(qn q:Int)),Value.int IntKind.i64 (v.length:Int),Value.string V] 80)).cell? ⟨w8.heap.size,0,none⟩ = some (.int .i64 ((k:Int)+(qn q:Int))):=by simp
 have p1:(w8.alloc (Obj.cells #[Value.int IntKind.i64 ((k:Int)+(qn q:Int)),Value.int IntKind.i64 (v.length:Int),Value.string V] 80)).cell? ⟨w8.heap.size,1,none⟩ = some (.int .i64 (v.length:Int)):=by simp
 have p2:(w8.alloc (Obj.cells #[Value.int IntKind.i64 ((k:Int)+(qn q:Int)),Value.int IntKind.i64 (v.length:Int),Value.string V] 80)).cell? ⟨w8.heap.size,2,none⟩ = some (.string V):=by simp
 generalize w8.alloc (Obj.cells #[Value.int IntKind.i64 ((k:Int)+(qn q:Int)),Value.int IntKind.i64 (v.length:Int),Value.string V] 80) = w9 at hA9 p0 p1 p2 ⊢
 have HP9:=Box.mk (HP8.out.below hA9 hb8)
 have HO9:=Box.mk (HO8.out.below hA9 (Nat.le_refl _))
 have hb9:Below b w w9:=hbw.trans (hA9.mono (Nat.le_of_lt hb8))
 have hbs:b+1 ≤ w9.heap.size:=Nat.le_trans hb8 hA9.size
 obtain ⟨d0,d1,d2,d3,g2,g3,hb10⟩:=HP9.out.cells
 clear HP7 HP8 HO8 HO HL8 HG7 HGP HS HN HV HK HQ HG HU hA hA9
 go_region_law (refine step_appL _ w9 rfl (.tmp 57) (.tmp 59) rfl (b+1) (.slice A8 ls.length cap8) ls (by simp [Act.eval]) (by exact World.ownsRow.alloc HO9.out _) w9.heap.size 1 (k+qn q,v.length,V) (by simp [Act.eval]) (by simp) (by simp) (by simp) hls (by simp; omega) (by exact ((Below.refl _ _).drew).alloc hbs _) ?_; intro v' w6 hown6 hb6; obtain ⟨A6,cap6,rfl,hc6⟩:=hown6.len; obtain ⟨e0,e1,e2,e3,i2,i3,hb11⟩:=(HP9.out.below hb6 (Nat.lt_succ_self b)).cells)
 all_goals
  go_wp2
  go_end0
  exact ⟨rfl,_,V,(HP9.out.below hb6 (Nat.lt_succ_self b)).setL _,(by have h:=hown6.kept (pgrown_set w6 b 3 (.slice A6 (ls.length+1) cap6)) (Nat.lt_succ_self b); rw [List.length_append] at h; exact h),HV8.out,hle,(hb9.trans (hb6.mono (Nat.le_succ b))).trans (below_of_grown (pgrown_set _ b 3 _) (Nat.le_of_lt hb11))⟩
end Go.Proofs.YtknhacbfddggpaaGreatDoor
namespace Go.Proofs.YtknhacbfddggpaaGreatDoor
open Go.RowKit Go.Proofs.Px
structure PGB (w:World) (b:Nat):Prop where
 gp:GP w b
 l0:4 < b
 l1:8 < b
 l2:5 < b
 l3:2 < b
theorem pbelow_cell {w w':World} {b k i:Nat} {v:Value} (hg:Below b w w') (hk:k < b) (h:w.cell? ⟨k,i,none⟩ = some v):w'.cell? ⟨k,i,none⟩ = some v:=(hg.cell (p:=⟨k,i,none⟩) hk).trans h
theorem PGB.below {w w':World} {b:Nat} (h:PGB w b) (hg:Below b w w'):PGB w' b:=by
 obtain ⟨m,hm⟩:=h.gp.mx
 have W:=h.gp.words
 have E:=h.gp.leads
 have V:=h.gp.verbs
 exact ⟨⟨⟨pbelow_cell hg h.l0 W.c0,pbelow_cell hg h.l0 W.c1,pbelow_cell hg h.l0 W.c2,pbelow_cell hg h.l0 W.c3,pbelow_cell hg h.l0 W.c4,pbelow_cell hg h.l0 W.c5,pbelow_cell hg h.l0 W.c6,pbelow_cell hg h.l0 W.c7,pbelow_cell hg h.l0 W.c8,pbelow_cell hg h.l0 W.c9⟩,
  ⟨pbelow_cell hg h.l1 E.c0,pbelow_cell hg h.l1 E.c1,pbelow_cell hg h.l1 E.c2⟩,
  ⟨pbelow_cell hg h.l2 V.c0,pbelow_cell hg h.l2 V.c1,pbelow_cell hg h.l2 V.c2,pbelow_cell hg h.l2 V.c3⟩,
  ⟨m,pbelow_cell hg h.l3 hm⟩,h.gp.n0,h.gp.n1,h.gp.n2,h.gp.n3⟩,h.l0,h.l1,h.l2,h.l3⟩
theorem val_by (n nm pre w:List UInt8):stepVal n nm pre w = match valS w with
  | none=>none
  | some (v,q)=>if linkNames.contains nm then some (pre++w.take (qn q),some (v,q),some (false,n),w.drop (v.length+2 * qn q)) else some (pre++w.take (v.length+2 * qn q),none,some (false,n),w.drop (v.length+2 * qn q)):=by
 unfold stepVal valS
 cases w with
 | nil=>rfl
 | cons q t =>
  simp only
  by_cases h1:q = 34 ∨ q = 39
  ·rw [if_pos h1,if_pos h1,findL_while]
   by_cases h2:t.dropWhile (· != q) = []
   ·rw [if_pos h2,if_pos h2]; rfl
   ·rw [if_neg h2,if_neg h2]
    obtain ⟨d,r,hd⟩:∃ d r,t.dropWhile (· != q) = d :: r:=by
     cases hh:t.dropWhile (· != q) with
     | nil=>exact absurd hh h2
     | cons d r=>exact ⟨d,r,rfl⟩
    have hdq:d = q:=by
     have:=dropWhile_head (p:=(· != q)) t
     rw [hd] at this
     simpa using this
    subst hdq
    have ht:t = t.takeWhile (· != d)++d :: r:=by rw [← hd,List.takeWhile_append_dropWhile]
    have hq1:qn true = 1:=rfl
    simp only [Option.map_some,hd,hq1]
    generalize t.takeWhile (· != d) = V at ht ⊢
    clear hd h2
    subst ht
    have e:d :: (V++d :: r) = (d :: V++[d])++r:=by simp
    have hdr:(d :: (V++d :: r)).drop (V.length+2 * 1) = r:=by rw [e]; exact List.drop_left' (by simp)
    have htk:(d :: (V++d :: r)).take (V.length+2 * 1) = d :: V++[d]:=by rw [e]; exact List.take_left' (by simp)
    rw [hdr,htk]
    by_cases h3:linkNames.contains nm = true
    ·rw [if_pos h3,if_pos h3]; rfl
    ·rw [if_neg h3,if_neg h3]; simp
  ·rw [if_neg h1,if_neg h1]
   by_cases h2:(q :: t).dropWhile bareC = []
   ·rw [if_pos h2,if_pos h2]
   ·rw [if_neg h2,if_neg h2]
    have hq0:qn false = 0:=rfl
    have hs:=List.takeWhile_append_dropWhile (p:=bareC) (l:=q :: t)
    have hdr:(q :: t).drop (((q :: t).takeWhile bareC).length+2 * 0) = (q :: t).dropWhile bareC:=by
     conv=>lhs; rw [← hs]
     exact List.drop_left' (by rw [hs]; omega)
    have htk:(q :: t).take (((q :: t).takeWhile bareC).length+2 * 0) = (q :: t).takeWhile bareC:=by
     conv=>lhs; rw [← hs]
     exact List.take_left' (by rw [hs]; omega)
    simp only [hq0]
    rw [hdr,htk]
    by_cases h3:linkNames.contains nm = true
    ·rw [if_pos h3,if_pos h3]; simp
    ·rw [if_neg h3,if_neg h3]
theorem val_len (l v:List UInt8) (q:Bool) (h:valS l = some (v,q)):v.length+2 * qn q ≤ l.length:=by
 cases l with
 | nil=>cases h
 | cons d y =>
  rw [valS] at h
  by_cases h1:d = 34 ∨ d = 39
  ·rw [if_pos h1] at h
   by_cases h2:y.dropWhile (· != d) = []
   ·rw [if_pos h2] at h; cases h
   ·rw [if_neg h2] at h
    simp only [Option.some.injEq,Prod.mk.injEq] at h
    obtain ⟨rfl,rfl⟩:=h
    have e4:=while_lenP (p:=(· != d)) y
    have e5:=List.length_pos_iff.2 h2
    have:qn true = 1:=rfl
    rw [List.length_cons]
    omega
  ·rw [if_neg h1] at h
   by_cases h2:(d :: y).dropWhile bareC = []
   ·rw [if_pos h2] at h; cases h
   ·rw [if_neg h2] at h
    simp only [Option.some.injEq,Prod.mk.injEq] at h
    obtain ⟨rfl,rfl⟩:=h
    have e4:=while_lenP (p:=bareC) (d :: y)
    have:qn false = 0:=rfl
    omega
def AttrPost (pg sm:ByteArray) (b a:Nat) (w:World) (ls:List Lk):Option Out → Ending → World → Prop
 | none,e,w'=>e = .returned (.tuple #[])∧∃ L',PR w' b pg sm pg.size L'∧OwnL w' (b+1) L' ls∧Below b w w'
 | some (c,none,_,r),e,w'=>e = .returned (.tuple #[])∧∃ L',PR w' b pg sm (a+c.length) L'∧OwnL w' (b+1) L' ls∧pg.data.toList.drop (a+c.length) = r∧a+c.length ≤ pg.size∧Below b w w'
 | some (c,some (v,q),_,r),e,w'=>e = .returned (.tuple #[])∧∃ L' V,PR w' b pg sm (a+c.length+v.length+qn q) L'∧OwnL w' (b+1) L' (ls++[(a+c.length,v.length,V)])∧V.data.toList = unescS v∧pg.data.toList.drop (a+c.length+v.length+qn q) = r∧a+c.length+v.length+qn q ≤ pg.size∧Below b w w'
theorem drop_on (l:List UInt8) (a:Nat) (x r:List UInt8) (h:l.drop a = x++r):l.drop (a+x.length) = r:=by
 rw [← List.drop_drop,h,List.drop_left]
theorem small_at (pg sm:ByteArray) (hsm:sm.data.toList = smallS pg.data.toList) (a n:Nat):(sm.data.toList.drop a).take n = smallS ((pg.data.toList.drop a).take n):=by
 rw [hsm]; unfold smallS; rw [List.map_take,List.map_drop]
theorem attr_any (b a:Nat) (pg sm:ByteArray) (L:Value) (w:World) (h:PR w b pg sm a L) (hG:PGB w b) (hl:pg.size ≤ 100000000) (hsm:sm.data.toList = smallS pg.data.toList) (n t:List UInt8) (c:UInt8) (hd:pg.data.toList.drop a = c :: t) (hc:c ≠ 62) (hk:skipC c = false) (ls:List Lk) (hO:OwnL w (b+1) L ls) (hls:ls.length+1 ≤ 1000000000) :
  Calls Tryz.prog 198 #[.pointer (some ⟨b,0,none⟩)] w (AttrPost pg sm b a w ls (stepTag n (c :: t))):=by
 have hs:sm.size = pg.size:=by rw [← size_list,hsm,← size_list]; unfold smallS; simp
 have hbl:=h.cells.2.2.2.2.2.2
 have hln:(pg.data.toList.drop a).length = pg.size - a:=by rw [List.length_drop,size_list]
 have ha:a < pg.size:=by rw [hd] at hln; simp at hln; omega
 have hd1:pg.data.toList.drop (a+1) = t:=drop_on _ a [c] t hd
 have hu:(a+1)+untilN attrA.data.toList sm.data.toList (a+1) = a+1+(t.takeWhile attrC).length:=by
  have:=until_small attrL attrC attr_c pg.data.toList (a+1)
  rw [hd1,← hsm] at this
  exact congrArg (a+1+·) this
 have hdu:pg.data.toList.drop (a+1+(t.takeWhile attrC).length) = t.dropWhile attrC:=drop_on _ (a+1) _ _ (by rw [hd1,List.takeWhile_append_dropWhile])
 obtain ⟨u,hu'⟩:∃ u,a+1+(t.takeWhile attrC).length = u:=⟨_,rfl⟩
 rw [hu'] at hu hdu
 have hg:u+runN blanksA.data.toList sm.data.toList u = u+((t.dropWhile attrC).takeWhile gapC).length:=by
  have:=run_small blanksL gapC gap_c pg.data.toList u
  rw [hdu,← hsm] at this
  exact congrArg (u+·) this
 have hdg:pg.data.toList.drop (u+((t.dropWhile attrC).takeWhile gapC).length) = (t.dropWhile attrC).dropWhile gapC:=drop_on _ u _ _ (by rw [hdu,List.takeWhile_append_dropWhile])
 obtain ⟨g,hg'⟩:∃ g,u+((t.dropWhile attrC).takeWhile gapC).length = g:=⟨_,rfl⟩
 rw [hg'] at hg hdg
 have hq:=isAt_small isA sm _ is_c pg.data.toList hsm g
 rw [hdg] at hq
 have htk:(c :: t).takeWhile skipC = []:=by rw [List.takeWhile_cons_of_neg (by rw [hk]; simp)]
 have hdk:(c :: t).dropWhile skipC = c :: t:=by rw [List.dropWhile_cons_of_neg (by rw [hk]; simp)]
 unfold stepTag
 rw [htk,hdk]
 simp only [List.nil_append]
 rw [if_neg hc]
 by_cases h1:t.dropWhile attrC = []
 ·rw [if_pos h1]
  have hq0:isAtB isA sm g = false:=by rw [hq,h1]; rfl
  have hgs:g = pg.size:=by
   have e1:=congrArg List.length hdu
   have e2:u ≤ pg.size:=by have:=while_lenP (p:=attrC) t; rw [hd] at hln; simp at hln; omega
   rw [h1,List.length_drop,size_list] at e1
   rw [h1] at hg'
   simp at e1 hg'
   omega
  refine (attr_plain b a u g pg sm L w h hl hs ha hu hg hq0).mono ?_
  rintro e w' ⟨rfl,hP,hw⟩
  rw [hgs] at hP
  exact ⟨rfl,L,hP,hO.kept hw (Nat.lt_succ_self b),below_of_grown hw (Nat.le_of_lt hbl)⟩
 ·rw [if_neg h1]
  have hgl:g ≤ pg.size:=by
   have e1:=while_lenP (p:=attrC) t
   have e2:=while_lenP (p:=gapC) (t.dropWhile attrC)
   rw [hd] at hln; simp at hln; omega
  by_cases h2:((t.dropWhile attrC).dropWhile gapC).head? = some 61
  ·rw [if_pos h2]
   have hq1:isAtB isA sm g = true:=by rw [hq,h2]; rfl
   obtain ⟨x,hx⟩:∃ x,(t.dropWhile attrC).dropWhile gapC = 61 :: x:=by
    cases hh:(t.dropWhile attrC).dropWhile gapC with
    | nil=>rw [hh] at h2; cases h2
    | cons d x=>rw [hh] at h2; simp at h2; rw [h2]; exact ⟨x,rfl⟩
   rw [hx] at hdg ⊢
   have hgl2:g < pg.size:=by
    have e1:=congrArg List.length hdg
    rw [List.length_drop,size_list] at e1
    simp at e1; omega
   have hdg1:pg.data.toList.drop (g+1) = x:=drop_on _ g [61] x hdg
   have hkk:(g+1)+runN blanksA.data.toList sm.data.toList (g+1) = g+1+(x.takeWhile gapC).length:=by
    have:=run_small blanksL gapC gap_c pg.data.toList (g+1)
    rw [hdg1,← hsm] at this
    exact congrArg (g+1+·) this
   have hdk2:pg.data.toList.drop (g+1+(x.takeWhile gapC).length) = x.dropWhile gapC:=drop_on _ (g+1) _ _ (by rw [hdg1,List.takeWhile_append_dropWhile])
   obtain ⟨k,hk'⟩:∃ k,g+1+(x.takeWhile gapC).length = k:=⟨_,rfl⟩
   rw [hk'] at hkk hdk2
   have hnm:(sm.data.toList.drop a).take (u - a) = smallS (c :: t.takeWhile attrC):=by
    rw [small_at pg sm hsm,hd,show u - a = (t.takeWhile attrC).length+1 from by omega,List.take_succ_cons,take_while]
   simp only [List.drop_succ_cons,List.drop_zero]
   obtain ⟨pre,hpre⟩:∃ pre,c :: t.takeWhile attrC++(t.dropWhile attrC).takeWhile gapC++[61]++x.takeWhile gapC = pre:=⟨_,rfl⟩
   have hpl:a+pre.length = k:=by rw [← hpre,← hk',← hg',← hu']; simp; omega
   rw [hpre,val_by,← hdk2]
   cases hv:valS (pg.data.toList.drop k) with
   | none =>
    refine (attr_none b a u g k pg sm L w h hG.gp hl hsm ha hu hg hq1 hgl2 hkk hv).mono ?_
    rintro e w' ⟨rfl,hP,hw⟩
    exact ⟨rfl,L,hP,hO.kept hw (Nat.lt_succ_self b),below_of_grown hw (Nat.le_of_lt hbl)⟩
   | some vq =>
    obtain ⟨v,q⟩:=vq
    simp only
    have hvl:v.length+2 * qn q ≤ (pg.data.toList.drop k).length:=val_len _ v q hv
    have hql:qn q ≤ v.length+2 * qn q:=by omega
    cases hn:linkNames.contains (smallS (c :: t.takeWhile attrC)) with
    | true =>
     simp only [if_true]
     refine (attr_link b a u g k pg sm L w h hG.gp hl hsm ha hu hg hq1 hgl2 hkk v q hv (by rw [hnm]; exact hn) ls hO hls).mono ?_
     rintro e w' ⟨rfl,L',V,hP,hO',hV,hle,hb⟩
     have hcl:(pre++(pg.data.toList.drop k).take (qn q)).length = pre.length+qn q:=by rw [List.length_append,List.length_take]; omega
     refine ⟨rfl,L',V,?_,?_,hV,?_,?_,hb⟩
     ·rw [hcl,show a+(pre.length+qn q)+v.length+qn q = k+v.length+2 * qn q from by omega]; exact hP
     ·rw [hcl,show a+(pre.length+qn q) = k+qn q from by omega]; exact hO'
     ·rw [hcl,List.drop_drop]; congr 1; omega
     ·rw [hcl]; omega
    | false =>
     rw [if_neg (by simp)]
     refine (attr_pass b a u g k pg sm L w h hG.gp hl hsm ha hu hg hq1 hgl2 hkk v q hv (by rw [hnm]; exact hn)).mono ?_
     rintro e w' ⟨rfl,hP,hle,hw⟩
     have hcl:(pre++(pg.data.toList.drop k).take (v.length+2 * qn q)).length = pre.length+(v.length+2 * qn q):=by rw [List.length_append,List.length_take]; omega
     refine ⟨rfl,L,?_,hO.kept hw (Nat.lt_succ_self b),?_,?_,below_of_grown hw (Nat.le_of_lt hbl)⟩
     ·rw [hcl,show a+(pre.length+(v.length+2 * qn q)) = k+v.length+2 * qn q from by omega]; exact hP
     ·rw [hcl,List.drop_drop]; congr 1; omega
     ·rw [hcl]; omega
  ·rw [if_neg h2]
   have hq0:isAtB isA sm g = false:=by
    rw [hq]
    cases hh:((t.dropWhile attrC).dropWhile gapC).head? with
    | none=>rfl
    | some d =>
     rw [hh] at h2
     simp only [Option.any_some,beq_eq_false_iff_ne]
     exact fun e=>h2 (by rw [e])
   refine (attr_plain b a u g pg sm L w h hl hs ha hu hg hq0).mono ?_
   rintro e w' ⟨rfl,hP,hw⟩
   have hcl:a+(c :: t.takeWhile attrC++(t.dropWhile attrC).takeWhile gapC).length = g:=by rw [← hg',← hu']; simp; omega
   refine ⟨rfl,L,?_,hO.kept hw (Nat.lt_succ_self b),?_,?_,below_of_grown hw (Nat.le_of_lt hbl)⟩
   ·rw [hcl]; exact hP
   ·rw [hcl]; exact hdg
   ·rw [hcl]; exact hgl
end Go.Proofs.YtknhacbfddggpaaGreatDoor
namespace Go.Proofs.YtknhacbfddggpaaGreatDoor
open Go.RowKit Go.Proofs.Px
theorem tag_mode (n t c' r:List UInt8) (c:UInt8) (e:Option (List UInt8 × Bool)) (m:Md) (hc:c ≠ 62) (hk:skipC c = false) (h:stepTag n (c :: t) = some (c',e,m,r)):m = some (false,n):=by
 have htk:(c :: t).takeWhile skipC = []:=by rw [List.takeWhile_cons_of_neg (by rw [hk]; simp)]
 have hdk:(c :: t).dropWhile skipC = c :: t:=by rw [List.dropWhile_cons_of_neg (by rw [hk]; simp)]
 unfold stepTag at h
 rw [htk,hdk] at h
 simp only [List.nil_append] at h
 rw [if_neg hc] at h
 by_cases h1:t.dropWhile attrC = []
 ·rw [if_pos h1] at h; cases h
 ·rw [if_neg h1] at h
  by_cases h2:((t.dropWhile attrC).dropWhile gapC).head? = some 61
  ·rw [if_pos h2,val_by] at h
   split at h
   ·cases h
   ·split at h
    ·simp only [Option.some.injEq,Prod.mk.injEq] at h; exact h.2.2.1.symm
    ·simp only [Option.some.injEq,Prod.mk.injEq] at h; exact h.2.2.1.symm
  ·rw [if_neg h2] at h
   simp only [Option.some.injEq,Prod.mk.injEq] at h; exact h.2.2.1.symm
theorem tag_exit (n t:List UInt8) (its:List PItem) (tl:List UInt8) (hR:Run (some (false,n)) (62 :: t) its tl) :
  (skipNames.contains n = false → ∃ its' tl',Run none t its' tl'∧∀ k,linksP k its = linksP (k+1) its') ∧
  (skipNames.contains n = true → (findN (60 :: 47 :: n) (62 :: t) = none∧∀ k,linksP k its = []) ∨ ∃ x y its' tl',findN (60 :: 47 :: n) (62 :: t) = some (x,y)∧Run none y its' tl'∧62 :: t = x++y∧∀ k,linksP k its = linksP (k+x.length) its'):=by
 have hcl:=tag_close n [] t (by simp)
 simp only [List.nil_append] at hcl
 cases hR with
 | stop _ _ h =>
  have h:stepTag n (62 :: t) = none:=h
  rw [hcl] at h; cases h
 | go _ m' _ c r _ e its h hr =>
  have h:stepTag n (62 :: t) = some (c,e,m',r):=h
  rw [hcl] at h
  simp only [Option.some.injEq,Prod.mk.injEq] at h
  obtain ⟨rfl,rfl,rfl,rfl⟩:=h
  refine ⟨fun hn=>?_,fun hn=>?_⟩
  ·rw [hn] at hr
   exact ⟨its,tl,hr,fun k=>rfl⟩
  ·rw [hn] at hr
   simp only [if_true] at hr
   rw [findN_gt]
   cases hr with
   | stop _ _ h =>
    have h:stepSkip n t = none:=h
    unfold stepSkip at h
    rw [Option.map_eq_none_iff.1 h]
    exact .inl ⟨rfl,fun k=>rfl⟩
   | go _ m2 _ c2 r2 _ e2 its2 h2 hr2 =>
    have h2:stepSkip n t = some (c2,e2,m2,r2):=h2
    unfold stepSkip at h2
    obtain ⟨q,hq,he⟩:=Option.map_eq_some_iff.1 h2
    simp only [Prod.mk.injEq] at he
    obtain ⟨rfl,rfl,rfl,rfl⟩:=he
    rw [hq]
    refine .inr ⟨62 :: q.1,q.2,its2,tl,rfl,hr2,?_,fun k=>?_⟩
    ·rw [List.cons_append,← (findN_some _ _ q.1 q.2 hq).1]
    ·show linksP (k+1+q.1.length) its2 = _
     rw [List.length_cons,Nat.add_assoc k,Nat.add_comm 1]
theorem lk2_len (ls:List Lk) (k:Nat) (its:List PItem) (ALL:List (Nat × Nat × List UInt8)) (h:ls.map lk2++linksP k its = ALL) (hA:ALL.length ≤ 100000000):ls.length ≤ 100000000:=by
 have:=congrArg List.length h
 rw [List.length_append,List.length_map] at this
 omega
def AttrNext (pg sm:ByteArray) (b k:Nat) (w:World) (n:List UInt8) (ALL:List (Nat × Nat × List UInt8)) (e:Ending) (w':World):Prop:=
 e = .returned (.tuple #[])∧∃ k1 L' ls' its' tl',PR w' b pg sm k1 L'∧OwnL w' (b+1) L' ls'∧k < k1∧k1 ≤ pg.size∧Run (some (false,n)) (pg.data.toList.drop k1) its' tl'∧ls'.map lk2++linksP k1 its' = ALL∧Below b w w'
theorem attr_next (b k:Nat) (pg sm:ByteArray) (L:Value) (w:World) (h:PR w b pg sm k L) (hG:PGB w b) (hl:pg.size ≤ 100000000) (hsm:sm.data.toList = smallS pg.data.toList) (n t:List UInt8) (c:UInt8) (hd:pg.data.toList.drop k = c :: t) (hc:c ≠ 62) (hk:skipC c = false) (ls:List Lk) (hO:OwnL w (b+1) L ls) (its:List PItem) (tl:List UInt8) (hR:Run (some (false,n)) (pg.data.toList.drop k) its tl) (ALL:List (Nat × Nat × List UInt8)) (hA:ls.map lk2++linksP k its = ALL) (hAl:ALL.length ≤ 100000000) :
  Calls Tryz.prog 198 #[.pointer (some ⟨b,0,none⟩)] w (AttrNext pg sm b k w n ALL):=by
 have hll:=lk2_len ls k its ALL hA hAl
 have hkl:k < pg.size:=by
  have e:=congrArg List.length hd
  rw [List.length_drop,size_list,List.length_cons] at e
  omega
 refine (attr_any b k pg sm L w h hG hl hsm n t c hd hc hk ls hO (by omega)).mono ?_
 rw [hd] at hR
 intro e w' hp
 cases hR with
 | stop _ _ h0 =>
  have h0:stepTag n (c :: t) = none:=h0
  rw [h0] at hp
  obtain ⟨rfl,L',hP,hO',hb⟩:=hp
  refine ⟨rfl,pg.size,L',ls,[],[],hP,hO',hkl,Nat.le_refl _,?_,hA,hb⟩
  rw [List.drop_of_length_le (by rw [size_list]; exact Nat.le_refl _)]
  exact run_nil _
 | go _ m' _ c' r _ e' its' h0 hr =>
  have h0:stepTag n (c :: t) = some (c',e',m',r):=h0
  have hm:=tag_mode n t c' r c e' m' hc hk h0
  subst hm
  rw [h0] at hp
  match e' with
  | none =>
   obtain ⟨rfl,L',hP,hO',hdr,hle,hb⟩:=hp
   have hne:=List.length_pos_iff.2 (tag_none n _ c' r r _ h0 rfl).2.1
   exact ⟨rfl,_,L',ls,its',tl,hP,hO',by omega,hle,by rw [hdr]; exact hr,hA,hb⟩
  | some (v,q) =>
   obtain ⟨rfl,L',V,hP,hO',hV,hdr,hle,hb⟩:=hp
   have hne:=List.length_pos_iff.2 (tag_some n _ c' r v q _ h0).2.1
   refine ⟨rfl,_,L',_,its',tl,hP,hO',by omega,hle,by rw [hdr]; exact hr,?_,hb⟩
   rw [← hA,List.map_append,List.append_assoc]
   congr 1
   show [(k+c'.length,v.length,V.data.toList)]++_ = _
   rw [hV]
   rfl
end Go.Proofs.YtknhacbfddggpaaGreatDoor
namespace Go.Proofs.YtknhacbfddggpaaGreatDoor
open Go.RowKit Go.Proofs.Px
def MarkPost (pg sm:ByteArray) (b a:Nat) (w:World) (ALL:List (Nat × Nat × List UInt8)) (e:Ending) (w':World):Prop:=
 e = .returned (.tuple #[])∧∃ L' ls' a' z r its tl,PR w' b pg sm a' L'∧OwnL w' (b+1) L' ls'∧a ≤ a'∧a' ≤ pg.size∧pg.data.toList.drop a' = z++r∧60 ∉ z∧Run none r its tl∧ls'.map lk2++linksP (a'+z.length) its = ALL∧Below b w w'
def alnumA:ByteArray:=⟨#[97,98,99,100,101,102,103,104,105,106,107,108,109,110,111,112,113,114,115,116,117,118,119,120,121,122,48,49,50,51,52,53,54,55,56,57]⟩
def aheadA:ByteArray:=⟨#[32,9,13,10,47]⟩
def endA:ByteArray:=⟨#[62]⟩
structure TagAt (pg:ByteArray) (n:List UInt8) (ALL:List (Nat × Nat × List UInt8)) (k:Nat) (ls:List Lk):Prop where
 hd:(pg.data.toList.drop k).head?.all (fun c=>!skipC c) = true
 run:∃ its tl,Run (some (false,n)) (pg.data.toList.drop k) its tl∧ls.map lk2++linksP k its = ALL
theorem tag_at (pg sm:ByteArray) (hsm:sm.data.toList = smallS pg.data.toList) (n:List UInt8) (ALL:List (Nat × Nat × List UInt8)) (k:Nat) (ls:List Lk) (its:List PItem) (tl:List UInt8) (hR:Run (some (false,n)) (pg.data.toList.drop k) its tl) (hA:ls.map lk2++linksP k its = ALL):TagAt pg n ALL (k+runN aheadA.data.toList sm.data.toList k) ls:=by
 have hr:runN aheadA.data.toList sm.data.toList k = ((pg.data.toList.drop k).takeWhile skipC).length:=by
  have:=run_small aheadL skipC ahead_c pg.data.toList k
  rw [← hsm] at this
  exact this
 have hd:pg.data.toList.drop (k+((pg.data.toList.drop k).takeWhile skipC).length) = (pg.data.toList.drop k).dropWhile skipC:=drop_on _ k _ _ (by rw [List.takeWhile_append_dropWhile])
 rw [hr]
 refine ⟨by rw [hd]; exact dropWhile_head _,?_⟩
 obtain ⟨its',tl',h1,h2⟩:=run_skip n _ its tl hR
 exact ⟨its',tl',by rw [hd]; exact h1,by rw [h2]; exact hA⟩
theorem mend_page (pg sm:ByteArray) (b a:Nat) (w w':World) (ALL:List (Nat × Nat × List UInt8)) (L:Value) (ls:List Lk) (h:PR w' b pg sm pg.size L) (hO:OwnL w' (b+1) L ls) (ha:a ≤ pg.size) (hA:ls.map lk2 = ALL) (hb:Below b w w'):MarkPost pg sm b a w ALL (.returned (.tuple #[])) w':=
 ⟨rfl,L,ls,pg.size,[],[],[],[],h,hO,ha,Nat.le_refl _,by rw [List.drop_of_length_le (by rw [size_list]; exact Nat.le_refl _)]; rfl,by simp,run_nil _,by rw [linksP,List.append_nil]; exact hA,hb⟩
theorem tag_over (pg sm:ByteArray) (b a k:Nat) (w w':World) (ALL:List (Nat × Nat × List UInt8)) (L:Value) (ls:List Lk) (n t:List UInt8) (hd:pg.data.toList.drop k = 62 :: t) (hT:TagAt pg n ALL k ls) (hn:skipNames.contains n = false) (h:PR w' b pg sm k L) (hO:OwnL w' (b+1) L ls) (ha:a ≤ k) (hk:k ≤ pg.size) (hb:Below b w w'):MarkPost pg sm b a w ALL (.returned (.tuple #[])) w':=by
 obtain ⟨its,tl,hR,hA⟩:=hT.run
 rw [hd] at hR
 obtain ⟨its',tl',h1,h2⟩:=(tag_exit n t its tl hR).1 hn
 exact ⟨rfl,L,ls,k,[62],t,its',tl',h,hO,ha,hk,hd,by simp,h1,by rw [← hA,h2]; rfl,hb⟩
theorem tag_verb (pg sm:ByteArray) (hsm:sm.data.toList = smallS pg.data.toList) (b a k:Nat) (w w':World) (ALL:List (Nat × Nat × List UInt8)) (L:Value) (ls:List Lk) (n t:List UInt8) (hd:pg.data.toList.drop k = 62 :: t) (hT:TagAt pg n ALL k ls) (hn:skipNames.contains n = true) (h:PR w' b pg sm (seekTo (60 :: 47 :: n) sm.data.toList pg.size k) L) (hO:OwnL w' (b+1) L ls) (ha:a ≤ k) (hk:k ≤ pg.size) (hb:Below b w w'):MarkPost pg sm b a w ALL (.returned (.tuple #[])) w':=by
 obtain ⟨its,tl,hR,hA⟩:=hT.run
 rw [hd] at hR
 have hix:Lib.index (sm.data.toList.drop k) (60 :: 47 :: n) = match findN (60 :: 47 :: n) (62 :: t) with | none=>-1 | some q=>(q.1.length:Int):=by
  have e:sm.data.toList.drop k = smallS (62 :: t):=by rw [hsm,← hd]; unfold smallS; rw [List.map_drop]
  rw [e]
  exact index_findN _ _ (by simp)
 have hs:sm.data.toList.length = pg.size:=by rw [hsm,smallS_len,size_list]
 have hle:=seek_le (60 :: 47 :: n) sm.data.toList pg.size k hs hk
 unfold seekTo at h hle
 rw [hix] at h hle
 rcases (tag_exit n t its tl hR).2 hn with ⟨h1,h2⟩ | ⟨x,y,its',tl',h1,h2,h3,h4⟩
 ·rw [h1] at h
  exact mend_page pg sm b a w w' ALL L ls h hO (by omega) (by rw [← hA,h2,List.append_nil]) hb
 ·rw [h1] at h hle
  have h0:(0:Int) ≤ ((x.length:Nat):Int):=by omega
  simp only [h0,if_true,Int.toNat_natCast] at h hle
  exact ⟨rfl,L,ls,k+x.length,[],y,its',tl',h,hO,by omega,hle,drop_on _ k x y (by rw [hd]; exact h3),by simp,h2,by rw [← hA,h4]; rfl,hb⟩
set_option maxHeartbeats 4000000 in
set_option maxRecDepth 100000 in
theorem tag_any (b a:Nat) (pg sm:ByteArray) (L:Value) (w:World) (h:PR w b pg sm a L) (hG:PGB w b) (hl:pg.size ≤ 100000000) (hsm:sm.data.toList = smallS pg.data.toList) (ha:a ≤ pg.size) (n rem:List UInt8) (hn:smallS ((pg.data.toList.drop a).takeWhile alnumC) = n) (hr:(pg.data.toList.drop a).dropWhile alnumC = rem) (ls:List Lk) (hO:OwnL w (b+1) L ls) (its:List PItem) (tl:List UInt8) (hR:Run (some (false,n)) rem its tl) (ALL:List (Nat × Nat × List UInt8)) (hA:ls.map lk2++linksP (a+n.length) its = ALL) (hAl:ALL.length ≤ 100000000) :
  Calls Tryz.prog 155 #[.pointer (some ⟨b,0,none⟩)] w (MarkPost pg sm b a w ALL):=by
 have hs:sm.size = pg.size:=by rw [← size_list,hsm,← size_list]; unfold smallS; simp
 have hnl:n.length = ((pg.data.toList.drop a).takeWhile alnumC).length:=by rw [← hn,smallS_len]
 have hu:a+runN alnumA.data.toList sm.data.toList a = a+n.length:=by
  have:=run_small alnumL alnumC alnum_c pg.data.toList a
  rw [← hsm,← hnl] at this
  exact congrArg (a+·) this
 have hdu:pg.data.toList.drop (a+n.length) = rem:=by rw [hnl]; exact drop_on _ a _ _ (by rw [← hr,List.takeWhile_append_dropWhile])
 obtain ⟨u,hu'⟩:∃ u,a+n.length = u:=⟨_,rfl⟩
 rw [hu'] at hu hdu hA
 rw [← hdu] at hR
 have hnm:(sm.extract a u).data.toList = n:=by
  rw [extract_list,small_at pg sm hsm,show u - a = ((pg.data.toList.drop a).takeWhile alnumC).length from by omega,take_while]
  exact hn
 have hT0:=tag_at pg sm hsm n ALL u ls its tl hR hA
 have hbl:=h.cells.2.2.2.2.2.2
 have HU:=Box.mk hu
 have HT0:=Box.mk hT0
 have HNM:=Box.mk hnm
 have HS:=Box.mk hsm
 have HG:=Box.mk hG
 have HO:=Box.mk hO
 have HP:=Box.mk h
 have HAl:=Box.mk hAl
 obtain ⟨c0,c1,c2,c3,f2,f3,hb⟩:=h.cells
 clear hu hdu hA hR hT0 hnm hr hn hsm hG hO h hAl hnl
 go_enter Tryz.func155,Tryz.ntmps155
 go_wp2_with fail
 refine (skip_any b a pg sm alnumA L _ HP.out hl hs ha).mono ?_
 rw [HU.out]
 rintro e w2 ⟨rfl,hP2,hu2,hg2⟩
 have HP2:=Box.mk hP2
 clear hP2 c0 c1 c2 c3 f2 f3
 obtain ⟨d0,d1,d2,d3,g2,g3,hb2⟩:=HP2.out.cells
 have k1:(0:Int) ≤ (a:Int):=by omega
 have k2:(a:Int) ≤ (u:Int):=by omega
 have k3:(u:Int) ≤ (sm.size:Int):=by omega
 go_wp2_with fail
 go_region
 go_wp2_with fail
 have HP3:=Box.mk (HP2.out.below (Below.refl w2.heap.size w2).drew hb2)
 have hg03:=hg2.trans (pgrown_of (Below.refl w2.heap.size w2).drew (some b))
 refine (skip_any b u pg sm aheadA L _ HP3.out hl hs hu2).mono ?_
 rintro e w4 ⟨rfl,hP4,hu4,hg4⟩
 have hg04:=hg03.trans hg4
 have HO4:=HO.out.kept hg04 (Nat.lt_succ_self b)
 have hbw4:=below_of_grown hg04 (Nat.le_of_lt hb)
 have hua:a ≤ u+runN aheadA.data.toList sm.data.toList u:=by omega
 have HT4:=HT0
 generalize u+runN aheadA.data.toList sm.data.toList u = k0 at hP4 hu4 hua HT4
 clear hg2 hg4 hg03 hg04 HP3 HP2 d0 d1 d2 d3 g2 g3 HT0
 go_wp2
 go_loopg [] (pg.size - k0) (fun gf wx=>∃ k L ls,a ≤ k∧k ≤ pg.size∧PR wx b pg sm k L∧OwnL wx (b+1) L ls∧Box (TagAt pg n ALL k ls)∧Below b w wx∧pg.size - k ≤ gf)
 case atStart=>exact ⟨k0,L,ls,hua,hu4,hP4,HO4,HT4,hbw4,Nat.le_refl _⟩
 case round =>
  clear HO4 hP4 HT4 hbw4 HP HO
  obtain ⟨k,L,ls,hak,hk,hr,hO,HT,hbw,hgf⟩:=hrel
  have hblt:=hr.cells.2.2.2.2.2.2
  have hq:=isAt_small endA sm _ end_c pg.data.toList HS.out k
  have HR:=Box.mk hr
  have HO:=Box.mk hO
  have HGr:=Box.mk (HG.out.below hbw)
  clear hr hO
  cases hd:pg.data.toList.drop k with
  | nil =>
   rw [hd] at hq
   have hkk:k = pg.size:=by
    have e:=congrArg List.length hd
    rw [List.length_drop,size_list] at e
    simp at e; omega
   have hq0:isAtB endA sm k = false:=by rw [hq]; rfl
   have HQ:=Box.mk hq0
   have HD:=Box.mk hd
   have hdt:decide (k = pg.size) = true:=decide_eq_true hkk
   clear hq hq0 hd
   have hb5:=(Below.refl wr.heap.size wr).drew
   go_wp2_with fail
   refine (isAt_any b k pg sm endA L _ HR.out hs hk).mono ?_
   rw [HQ.out]
   rintro e w5 ⟨rfl,hb5⟩
   have HR5:=Box.mk (HR.out.below hb5 hblt)
   have HO5:=Box.mk (HO.out.below hb5 (Nat.le_refl _))
   have hbw5:Below b w w5:=hbw.trans (hb5.mono (Nat.le_of_lt hblt))
   have hblt5:b < w5.heap.size:=Nat.lt_of_lt_of_le hblt hb5.size
   go_wp2_with fail
   refine (atEnd_any b k pg sm L _ HR5.out).mono ?_
   rw [hdt]
   rintro e w6 ⟨rfl,rfl⟩
   have hb6:=(Below.refl w5.heap.size w5).drew
   have HE:Box (MarkPost pg sm b a w ALL (.returned (.tuple #[])) w5.drew):=⟨by
    obtain ⟨its,tl,hR,hA⟩:=HT.out.run
    rw [HD.out] at hR
    have hit:its = []:=by
     cases hR with
     | stop _ _ _=>rfl
     | go _ _ _ _ _ _ _ _ h0 _=>cases h0
    subst hit
    rw [linksP,List.append_nil] at hA
    have hP6:=HR5.out.below hb6 hblt5
    rw [hkk] at hP6
    exact mend_page pg sm b a w _ ALL L ls hP6 (HO5.out.below hb6 (Nat.le_refl _)) ha hA (hbw5.trans (hb6.mono (Nat.le_of_lt hblt5)))⟩
   go_wp2
   exact bodyPost_ret (v:=.tuple #[]) (by simp [results,Tryz.results155,go_sem]) rfl HE.out
  | cons c t =>
   rw [hd] at hq
   have hkl:k < pg.size:=by
    have e:=congrArg List.length hd
    rw [List.length_drop,size_list,List.length_cons] at e
    omega
   have HD:=Box.mk hd
   have hcs:skipC c = false:=by
    have:=HT.out.hd
    rw [hd] at this
    simpa using this
   clear hd
   by_cases hc:c = 62
   ·subst hc
    have HQ:Box (isAtB endA sm k = true):=⟨by rw [hq]; rfl⟩
    clear hq hcs
    go_wp2_with fail
    refine (isAt_any b k pg sm endA L _ HR.out hs hk).mono ?_
    rw [HQ.out]
    rintro e w5 ⟨rfl,hb5⟩
    have HR5:=Box.mk (HR.out.below hb5 hblt)
    have HO5:=Box.mk (HO.out.below hb5 (Nat.le_refl _))
    have hbw5:Below b w w5:=hbw.trans (hb5.mono (Nat.le_of_lt hblt))
    have hblt5:b < w5.heap.size:=Nat.lt_of_lt_of_le hblt hb5.size
    have HG5:=Box.mk (HG.out.below hbw5)
    cases hnv:skipNames.contains n
    ·have HE:Box (MarkPost pg sm b a w ALL (.returned (.tuple #[])) w5):=⟨tag_over pg sm b a k w w5 ALL L ls n t HD.out HT.out hnv HR5.out HO5.out hak hk hbw5⟩
     have HNV:Box (skipNames.contains (sm.extract a u).data.toList = false):=⟨by rw [HNM.out]; exact hnv⟩
     clear hnv
     go_wp2_with (go_at_call 199; refine (isVerbatim_any _ _ HG5.out.gp.verbs).mono ?_; rw [HNV.out]; rintro e w9 ⟨rfl,rfl⟩)
     go_end0
     exact HE.out
    ·have HNV:Box (skipNames.contains (sm.extract a u).data.toList = true):=⟨by rw [HNM.out]; exact hnv⟩
     have HN2:=Box.mk hnv
     clear hnv
     go_wp2_with (go_at_call 199; refine (isVerbatim_any _ _ HG5.out.gp.verbs).mono ?_; rw [HNV.out]; rintro e w9 ⟨rfl,rfl⟩)
     have HTx:Box (((⟨#[60,47]⟩:ByteArray)++sm.extract a u).data.toList = 60 :: 47 :: n):=⟨by rw [ByteArray.data_append,Array.toList_append,HNM.out]; rfl⟩
     refine (seek_any b k pg sm _ L _ HR5.out hl hs hk HG5.out.gp.mx).mono ?_
     rw [HTx.out]
     rintro e w10 ⟨rfl,hP10,hg10⟩
     have HE:Box (MarkPost pg sm b a w ALL (.returned (.tuple #[])) w10):=⟨tag_verb pg sm HS.out b a k w w10 ALL L ls n t HD.out HT.out HN2.out hP10 (HO5.out.kept hg10 (Nat.lt_succ_self b)) hak hk (hbw5.trans (below_of_grown hg10 (Nat.le_of_lt hblt5)))⟩
     clear hP10 hg10
     go_wp2
     go_end0
     exact HE.out
   ·have HQ:Box (isAtB endA sm k = false):=⟨by rw [hq]; simp [hc]⟩
    have hdt:decide (k = pg.size) = false:=decide_eq_false (by omega)
    clear hq
    go_wp2_with fail
    refine (isAt_any b k pg sm endA L _ HR.out hs hk).mono ?_
    rw [HQ.out]
    rintro e w5 ⟨rfl,hb5⟩
    have HR5:=Box.mk (HR.out.below hb5 hblt)
    have HO5:=Box.mk (HO.out.below hb5 (Nat.le_refl _))
    have hbw5:Below b w w5:=hbw.trans (hb5.mono (Nat.le_of_lt hblt))
    have hblt5:b < w5.heap.size:=Nat.lt_of_lt_of_le hblt hb5.size
    go_wp2_with fail
    refine (atEnd_any b k pg sm L _ HR5.out).mono ?_
    rw [hdt]
    rintro e w6 ⟨rfl,rfl⟩
    have hb6:=(Below.refl w5.heap.size w5).drew
    have HR6:=Box.mk (HR5.out.below hb6 hblt5)
    have HO6:=Box.mk (HO5.out.below hb6 (Nat.le_refl _))
    have hbw6:=hbw5.trans (hb6.mono (Nat.le_of_lt hblt5))
    have HG6:=Box.mk (HG.out.below hbw6)
    obtain ⟨its,tl,hR,hA⟩:=HT.out.run
    have HRR:=Box.mk hR
    have HA:=Box.mk hA
    clear hR hA HR5 HO5 HR HO
    go_wp2_with fail
    refine (attr_next b k pg sm L _ HR6.out HG6.out hl HS.out n t c HD.out hc hcs ls HO6.out its tl HRR.out ALL HA.out HAl.out).mono ?_
    rintro e w7 ⟨rfl,k7,L7,ls7,its7,tl7,hP7,hO7,hk7,hl7,hR7,hA7,hb7⟩
    have HT7:=Box.mk (tag_at pg sm HS.out n ALL k7 ls7 its7 tl7 hR7 hA7)
    have HP7:=Box.mk hP7
    have HO7:=Box.mk hO7
    have hbw7:=hbw6.trans hb7
    have hblt7:=hP7.cells.2.2.2.2.2.2
    clear hP7 hO7 hR7 hA7
    go_wp2_with fail
    refine (skip_any b k7 pg sm aheadA L7 _ HP7.out hl hs hl7).mono ?_
    rintro e w8 ⟨rfl,hP8,hu8,hg8⟩
    have hO8:=HO7.out.kept hg8 (Nat.lt_succ_self b)
    have hbw8:=hbw7.trans (below_of_grown hg8 (Nat.le_of_lt hblt7))
    have hk8:k < k7+runN aheadA.data.toList sm.data.toList k7:=by omega
    generalize k7+runN aheadA.data.toList sm.data.toList k7 = k8 at hP8 hu8 HT7 hk8
    go_wp2
    go_roundg (pg.size - k - 1)
    case measure=>omega
    case rel=>exact ⟨k8,L7,ls7,by omega,hu8,hP8,hO8,HT7,hbw8,by omega⟩
end Go.Proofs.YtknhacbfddggpaaGreatDoor
namespace Go.Proofs.YtknhacbfddggpaaGreatDoor
open Go.RowKit Go.Proofs.Px
theorem seek_fixed (pg sm:ByteArray) (hsm:sm.data.toList = smallS pg.data.toList) (sub:List UInt8) (h0:sub ≠ []) (hf:∀ c ∈ sub,fixed c) (k:Nat):(Lib.index (sm.data.toList.drop k) sub = match findL sub (pg.data.toList.drop k) with | none=>-1 | some q=>(q.1.length:Int))∧seekTo sub sm.data.toList pg.size k = match findL sub (pg.data.toList.drop k) with | none=>pg.size | some q=>k+q.1.length:=by
 have e:sm.data.toList.drop k = smallS (pg.data.toList.drop k):=by rw [hsm]; unfold smallS; rw [List.map_drop]
 have h:=index_findN sub (pg.data.toList.drop k) h0
 rw [findN_fixed sub hf,← e] at h
 refine ⟨h,?_⟩
 unfold seekTo
 rw [h]
 cases findL sub (pg.data.toList.drop k) with
 | none=>rfl
 | some q =>
  have h0:(0:Int) ≤ ((q.1.length:Nat):Int):=by omega
  simp only [h0,if_true,Int.toNat_natCast]
theorem find_lt (rest:List UInt8):findL [60] (60 :: rest) = some ([],60 :: rest):=by
 unfold findL
 rw [if_pos (by simp [List.isPrefixOf])]
theorem top_nil (its:List PItem) (tl:List UInt8) (h:Run none [60] its tl):its = []:=by
 cases h with
 | stop _ _ _=>rfl
 | go _ m' _ c r _ e its h0 _ =>
  have h0:stepTop [60] = some (c,e,m',r):=h0
  unfold stepTop at h0
  rw [find_lt] at h0
  cases h0
theorem top_open (p:List UInt8) (its:List PItem) (tl:List UInt8) (h:Run none (60 :: 33 :: 45 :: 45 :: p) its tl):(findL [45,45,62] p = none∧its = []) ∨ ∃ x y its' tl',findL [45,45,62] p = some (x,[45,45,62]++y)∧Run none y its' tl'∧p = x++([45,45,62]++y)∧∀ k,linksP k its = linksP (k+4+x.length+3) its':=by
 have hst:stepTop (60 :: 33 :: 45 :: 45 :: p) = (findL [45,45,62] p).map fun q=>([]++[60,33,45,45]++q.1++[45,45,62],none,none,q.2.drop 3):=by
  unfold stepTop
  rw [find_lt]
  simp only [List.drop_succ_cons,List.drop_zero]
  rw [if_pos (by simp [List.isPrefixOf])]
 cases h with
 | stop _ _ h0 =>
  have h0:stepTop (60 :: 33 :: 45 :: 45 :: p) = none:=h0
  rw [hst] at h0
  exact .inl ⟨Option.map_eq_none_iff.1 h0,rfl⟩
 | go _ m' _ c r _ e its h0 hr =>
  have h0:stepTop (60 :: 33 :: 45 :: 45 :: p) = some (c,e,m',r):=h0
  rw [hst] at h0
  obtain ⟨q,hq,he⟩:=Option.map_eq_some_iff.1 h0
  simp only [Prod.mk.injEq] at he
  obtain ⟨rfl,rfl,rfl,rfl⟩:=he
  obtain ⟨y,hy⟩:=findL_pre _ _ q.1 q.2 hq
  have hs:=(findL_some _ _ q.1 q.2 hq).1
  rw [hy] at hs hr
  refine .inr ⟨q.1,y,its,tl,by rw [hq,← hy],hr,hs,fun k=>?_⟩
  show linksP (k+_) its = _
  congr 1
  simp
  omega
theorem top_mark (c:UInt8) (t:List UInt8) (hp:[33,45,45].isPrefixOf (c :: t) = false) (hc:c = 47 ∨ c = 33 ∨ c = 63) (its:List PItem) (tl:List UInt8) (h:Run none (60 :: c :: t) its tl):(findL [62] (c :: t) = none∧its = []) ∨ ∃ x y its' tl',findL [62] (c :: t) = some (x,62 :: y)∧Run none y its' tl'∧c :: t = x++62 :: y∧∀ k,linksP k its = linksP (k+1+x.length+1) its':=by
 have hst:stepTop (60 :: c :: t) = (findL [62] (c :: t)).map fun q=>([]++[60]++q.1++[62],none,none,q.2.drop 1):=by
  unfold stepTop
  rw [find_lt]
  simp only [List.drop_succ_cons,List.drop_zero]
  rw [if_neg (by rw [hp]; simp),if_pos hc]
 cases h with
 | stop _ _ h0 =>
  have h0:stepTop (60 :: c :: t) = none:=h0
  rw [hst] at h0
  exact .inl ⟨Option.map_eq_none_iff.1 h0,rfl⟩
 | go _ m' _ c' r _ e its h0 hr =>
  have h0:stepTop (60 :: c :: t) = some (c',e,m',r):=h0
  rw [hst] at h0
  obtain ⟨q,hq,he⟩:=Option.map_eq_some_iff.1 h0
  simp only [Prod.mk.injEq] at he
  obtain ⟨rfl,rfl,rfl,rfl⟩:=he
  obtain ⟨y,hy⟩:=findL_one 62 _ q.1 q.2 hq
  have hs:=(findL_some _ _ q.1 q.2 hq).1
  rw [hy] at hs hr
  refine .inr ⟨q.1,y,its,tl,by rw [hq,← hy],hr,hs,fun k=>?_⟩
  show linksP (k+_) its = _
  congr 1
  simp
  omega
theorem no_open (c:UInt8) (t:List UInt8) (hc:c ≠ 33):[33,45,45].isPrefixOf (c :: t) = false:=by
 simp only [List.isPrefixOf,Bool.and_eq_false_imp,beq_iff_eq]
 intro e
 exact absurd e.symm hc
theorem top_tag (c:UInt8) (t:List UInt8) (hc:¬ (c = 47 ∨ c = 33 ∨ c = 63)) (hal:alphC c = true) (its:List PItem) (tl:List UInt8) (h:Run none (60 :: c :: t) its tl):∃ its' tl',Run (some (false,smallS ((c :: t).takeWhile alnumC))) ((c :: t).dropWhile alnumC) its' tl'∧∀ k,linksP k its = linksP (k+1+(smallS ((c :: t).takeWhile alnumC)).length) its':=by
 have hst:stepTop (60 :: c :: t) = some ([]++[60]++(c :: t).takeWhile alnumC,none,some (false,smallS ((c :: t).takeWhile alnumC)),(c :: t).dropWhile alnumC):=by
  unfold stepTop
  rw [find_lt]
  simp only [List.drop_succ_cons,List.drop_zero]
  rw [if_neg (by rw [no_open c t (fun e=>hc (.inr (.inl e)))]; simp),if_neg hc,if_pos hal]
 cases h with
 | stop _ _ h0 =>
  have h0:stepTop (60 :: c :: t) = none:=h0
  rw [hst] at h0; cases h0
 | go _ m' _ c' r _ e its h0 hr =>
  have h0:stepTop (60 :: c :: t) = some (c',e,m',r):=h0
  rw [hst] at h0
  simp only [Option.some.injEq,Prod.mk.injEq] at h0
  obtain ⟨rfl,rfl,rfl,rfl⟩:=h0
  refine ⟨its,tl,hr,fun k=>?_⟩
  show linksP (k+_) its = _
  rw [smallS_len]
  congr 1
  simp
  omega
theorem top_none (c:UInt8) (t:List UInt8) (hc:¬ (c = 47 ∨ c = 33 ∨ c = 63)) (hal:alphC c = false) (its:List PItem) (tl:List UInt8) (h:Run none (60 :: c :: t) its tl):∃ its' tl',Run none (c :: t) its' tl'∧∀ k,linksP k its = linksP (k+1) its':=by
 have hst:stepTop (60 :: c :: t) = some ([]++[60],none,none,c :: t):=by
  unfold stepTop
  rw [find_lt]
  simp only [List.drop_succ_cons,List.drop_zero]
  rw [if_neg (by rw [no_open c t (fun e=>hc (.inr (.inl e)))]; simp),if_neg hc,if_neg (by rw [hal]; simp)]
 cases h with
 | stop _ _ h0 =>
  have h0:stepTop (60 :: c :: t) = none:=h0
  rw [hst] at h0; cases h0
 | go _ m' _ c' r _ e its h0 hr =>
  have h0:stepTop (60 :: c :: t) = some (c',e,m',r):=h0
  rw [hst] at h0
  simp only [Option.some.injEq,Prod.mk.injEq] at h0
  obtain ⟨rfl,rfl,rfl,rfl⟩:=h0
  exact ⟨its,tl,hr,fun k=>rfl⟩
def openA:ByteArray:=⟨#[33,45,45]⟩
def shutA:ByteArray:=⟨#[45,45,62]⟩
def markA:ByteArray:=⟨#[47,33,63]⟩
def lettersA:ByteArray:=⟨#[97,98,99,100,101,102,103,104,105,106,107,108,109,110,111,112,113,114,115,116,117,118,119,120,121,122]⟩
theorem mark_open (pg sm:ByteArray) (hsm:sm.data.toList = smallS pg.data.toList) (b k:Nat) (w w':World) (ALL:List (Nat × Nat × List UInt8)) (L:Value) (ls:List Lk) (p:List UInt8) (hd:pg.data.toList.drop (k+1) = 33 :: 45 :: 45 :: p) (its:List PItem) (tl:List UInt8) (hR:Run none (60 :: pg.data.toList.drop (k+1)) its tl) (hA:ls.map lk2++linksP k its = ALL) (h:PR w' b pg sm (seekTo [45,45,62] sm.data.toList pg.size (k+1+3)) L) (hO:OwnL w' (b+1) L ls) (hk:k+1+3 ≤ pg.size) (hb:Below b w w'):MarkPost pg sm b (k+1) w ALL (.returned (.tuple #[])) w':=by
 have hsk:=(seek_fixed pg sm hsm [45,45,62] (by simp) (by intro c hc; simp at hc; rcases hc with rfl | rfl; exact fixed45; exact fixed62) (k+1+3)).2
 have hdp:pg.data.toList.drop (k+1+3) = p:=drop_on _ (k+1) [33,45,45] p hd
 rw [hdp] at hsk
 rw [hd] at hR
 rcases top_open p its tl hR with ⟨h1,rfl⟩ | ⟨x,y,its',tl',h1,h2,h3,h4⟩
 ·rw [hsk,h1] at h
  exact mend_page pg sm b (k+1) w w' ALL L ls h hO (by omega) (by rw [← hA,linksP,List.append_nil]) hb
 ·rw [hsk,h1] at h
  have hdx:=drop_on _ (k+1+3) x _ (hdp.trans h3)
  refine ⟨rfl,L,ls,k+1+3+x.length,[45,45,62],y,its',tl',h,hO,by omega,?_,hdx,by simp,h2,?_,hb⟩
  ·have e:=congrArg List.length hdp
   rw [List.length_drop,size_list,h3] at e
   simp at e
   omega
  ·rw [← hA,h4]; rfl
theorem mark_mark (pg sm:ByteArray) (hsm:sm.data.toList = smallS pg.data.toList) (b k:Nat) (w w':World) (ALL:List (Nat × Nat × List UInt8)) (L:Value) (ls:List Lk) (c:UInt8) (t:List UInt8) (hd:pg.data.toList.drop (k+1) = c :: t) (hp:[33,45,45].isPrefixOf (c :: t) = false) (hc:c = 47 ∨ c = 33 ∨ c = 63) (its:List PItem) (tl:List UInt8) (hR:Run none (60 :: pg.data.toList.drop (k+1)) its tl) (hA:ls.map lk2++linksP k its = ALL) (h:PR w' b pg sm (seekTo [62] sm.data.toList pg.size (k+1)) L) (hO:OwnL w' (b+1) L ls) (hk:k+1 ≤ pg.size) (hb:Below b w w'):MarkPost pg sm b (k+1) w ALL (.returned (.tuple #[])) w':=by
 have hsk:=(seek_fixed pg sm hsm [62] (by simp) (by intro c hc; simp at hc; rw [hc]; exact fixed62) (k+1)).2
 rw [hd] at hR hsk
 rcases top_mark c t hp hc its tl hR with ⟨h1,rfl⟩ | ⟨x,y,its',tl',h1,h2,h3,h4⟩
 ·rw [hsk,h1] at h
  exact mend_page pg sm b (k+1) w w' ALL L ls h hO hk (by rw [← hA,linksP,List.append_nil]) hb
 ·rw [hsk,h1] at h
  have hdx:=drop_on _ (k+1) x _ (hd.trans h3)
  refine ⟨rfl,L,ls,k+1+x.length,[62],y,its',tl',h,hO,by omega,?_,hdx,by simp,h2,?_,hb⟩
  ·have e:=congrArg List.length hd
   rw [List.length_drop,size_list,h3] at e
   simp at e
   omega
  ·rw [← hA,h4]; rfl
set_option maxHeartbeats 4000000 in
set_option maxRecDepth 100000 in
theorem mark_any (b k:Nat) (pg sm:ByteArray) (L:Value) (w:World) (h:PR w b pg sm (k+1) L) (hG:PGB w b) (hl:pg.size ≤ 100000000) (hsm:sm.data.toList = smallS pg.data.toList) (ha:k+1 ≤ pg.size) (ls:List Lk) (hO:OwnL w (b+1) L ls) (its:List PItem) (tl:List UInt8) (hR:Run none (60 :: pg.data.toList.drop (k+1)) its tl) (ALL:List (Nat × Nat × List UInt8)) (hA:ls.map lk2++linksP k its = ALL) (hAl:ALL.length ≤ 100000000) :
  Calls Tryz.prog 107 #[.pointer (some ⟨b,0,none⟩)] w (MarkPost pg sm b (k+1) w ALL):=by
 have hs:sm.size = pg.size:=by rw [← size_list,hsm,← size_list]; unfold smallS; simp
 obtain ⟨a,hka⟩:∃ a,a = k+1:=⟨_,rfl⟩
 rw [← hka] at h ha
 have ex:(pg.extract a pg.size).data.toList = pg.data.toList.drop a:=by
  rw [extract_list,List.take_of_length_le (by rw [List.length_drop,size_list]; exact Nat.le_refl _)]
 obtain ⟨c0,c1,c2,c3,f2,f3,hb⟩:=h.cells
 have HS:=Box.mk hsm
 have HG:=Box.mk hG
 have HO:=Box.mk hO
 have HP:=Box.mk h
 have HAl:=Box.mk hAl
 have HA:=Box.mk hA
 have HR:=Box.mk hR
 have HX:=Box.mk ex
 have k1:(0:Int) ≤ (a:Int):=by omega
 have k2:(a:Int) ≤ (pg.size:Int):=by omega
 have hb1:=(Below.refl w.heap.size w).drew
 have HP1:=Box.mk (HP.out.below hb1 hb)
 have HO1:=Box.mk (HO.out.below hb1 (Nat.le_refl _))
 have hbw1:Below b w w.drew:=hb1.mono (Nat.le_of_lt hb)
 have HG1:=Box.mk (HG.out.below hbw1)
 have HKA:=Box.mk hka
 clear hsm hG hO h hAl hA hR ex hka
 cases hpp:[33,45,45].isPrefixOf (pg.data.toList.drop a)
 ·have HPP:Box (Lib.hasPrefix (pg.extract a pg.size).data.toList openA.data.toList = false):=⟨by rw [HX.out]; exact hpp⟩
  have HPF:=Box.mk hpp
  clear hpp
  go_enter Tryz.func107,Tryz.ntmps107
  go_wp2_with fail
  go_region_held3 (fun w'=>w'.cell? ⟨b,0,none⟩ = some (.string pg)∧w'.cell? ⟨b,1,none⟩ = some (.string sm)∧w'.cell? ⟨b,2,none⟩ = some (.int .i64 (a:Int))∧Below w.heap.size w w')
   ((go_split_ands; exact pkeep3 c0 c1 c2 (by first | exact (Below.refl _ _).drew | assumption)))
   (first
    | (go_at_call 12; refine (Tryz.strings_HasPrefix _ openA _).mono ?_; rw [HPP.out]; rintro e w5 ⟨rfl,rfl⟩))
  cases hd:pg.data.toList.drop a with
  | nil =>
   have HD:=Box.mk hd
   have HQ1:Box (isAtB markA sm a = false):=⟨by rw [isAt_small markA sm _ mark_c pg.data.toList HS.out a,hd]; rfl⟩
   have HQ2:Box (isAtB lettersA sm a = false):=⟨by rw [isAt_small lettersA sm _ alph_c pg.data.toList HS.out a,hd]; rfl⟩
   clear hd
   go_wp2_with fail
   refine (isAt_any b a pg sm markA L _ HP1.out hs ha).mono ?_
   rw [HQ1.out]
   rintro e w5 ⟨rfl,hb5⟩
   have HP5:=Box.mk (HP1.out.below hb5 hb)
   go_wp2_with fail
   refine (isAt_any b a pg sm lettersA L _ HP5.out hs ha).mono ?_
   rw [HQ2.out]
   rintro e w6 ⟨rfl,hb6⟩
   have hb56:=hb5.trans (hb6.mono hb5.size)
   have HE:Box (MarkPost pg sm b (k+1) w ALL (.returned (.tuple #[])) w6):=⟨by
    have hR:=HR.out
    rw [← HKA.out,HD.out] at hR
    have hit:=top_nil its tl hR
    have hA:=HA.out
    rw [hit,linksP,List.append_nil] at hA
    have hk:a = pg.size:=by
     have e:=congrArg List.length HD.out
     rw [List.length_drop,size_list] at e
     simp at e; omega
    have hP6:=HP1.out.below hb56 hb
    rw [hk] at hP6
    exact mend_page pg sm b (k+1) w _ ALL L ls hP6 (HO1.out.below hb56 (Nat.le_refl _)) (by rw [← HKA.out]; exact ha) hA (hbw1.trans (hb56.mono (Nat.le_of_lt hb)))⟩
   go_wp2
   go_end0
   exact HE.out
  | cons c t =>
   have HD:=Box.mk hd
   have hq1:=isAt_small markA sm _ mark_c pg.data.toList HS.out a
   have hq2:=isAt_small lettersA sm _ alph_c pg.data.toList HS.out a
   have hpf:[33,45,45].isPrefixOf (c :: t) = false:=by rw [← hd]; exact HPF.out
   rw [hd] at hq1 hq2
   have HF:=Box.mk hpf
   clear hd hpf
   by_cases hc:c = 47 ∨ c = 33 ∨ c = 63
   ·have HQ1:Box (isAtB markA sm a = true):=⟨by rw [hq1]; rcases hc with rfl | rfl | rfl <;> rfl⟩
    clear hq1 hq2
    have HC:=Box.mk hc
    clear hc
    go_wp2_with fail
    refine (isAt_any b a pg sm markA L _ HP1.out hs ha).mono ?_
    rw [HQ1.out]
    rintro e w5 ⟨rfl,hb5⟩
    have HP5:=Box.mk (HP1.out.below hb5 hb)
    have HO5:=Box.mk (HO1.out.below hb5 (Nat.le_refl _))
    have hbw5:=hbw1.trans (hb5.mono (Nat.le_of_lt hb))
    have hblt5:=HP5.out.cells.2.2.2.2.2.2
    have HG5:=Box.mk (HG.out.below hbw5)
    go_wp2_with fail
    refine (seek_any b a pg sm endA L _ HP5.out hl hs ha HG5.out.gp.mx).mono ?_
    rintro e w6 ⟨rfl,hP6,hg6⟩
    have HE:Box (MarkPost pg sm b (k+1) w ALL (.returned (.tuple #[])) w6):=⟨by
     have hP:=hP6
     rw [HKA.out] at hP
     exact mark_mark pg sm HS.out b k w w6 ALL L ls c t (by rw [← HKA.out]; exact HD.out) HF.out HC.out its tl HR.out HA.out hP (HO5.out.kept hg6 (Nat.lt_succ_self b)) (by rw [← HKA.out]; exact ha) (hbw5.trans (below_of_grown hg6 (Nat.le_of_lt hblt5)))⟩
    clear hP6
    go_wp2
    go_end0
    exact HE.out
   ·have HQ1:Box (isAtB markA sm a = false):=⟨by
     rw [hq1]
     simp only [List.head?_cons,Option.any_some,Bool.or_eq_false_iff,beq_eq_false_iff_ne]
     exact ⟨fun e=>hc (.inl e),fun e=>hc (.inr (.inl e)),fun e=>hc (.inr (.inr e))⟩⟩
    have HC:=Box.mk hc
    clear hq1 hc
    cases hal:alphC c
    ·have HQ2:Box (isAtB lettersA sm a = false):=⟨by rw [hq2]; exact hal⟩
     have HL:=Box.mk hal
     clear hq2 hal
     go_wp2_with fail
     refine (isAt_any b a pg sm markA L _ HP1.out hs ha).mono ?_
     rw [HQ1.out]
     rintro e w5 ⟨rfl,hb5⟩
     have HP5:=Box.mk (HP1.out.below hb5 hb)
     go_wp2_with fail
     refine (isAt_any b a pg sm lettersA L _ HP5.out hs ha).mono ?_
     rw [HQ2.out]
     rintro e w6 ⟨rfl,hb6⟩
     have hb56:=hb5.trans (hb6.mono hb5.size)
     have HE:Box (MarkPost pg sm b (k+1) w ALL (.returned (.tuple #[])) w6):=⟨by
      have hR:=HR.out
      have hD:=HD.out
      rw [HKA.out] at hD
      rw [hD] at hR
      obtain ⟨its',tl',h1,h2⟩:=top_none c t HC.out HL.out its tl hR
      have hP6:=HP1.out.below hb56 hb
      rw [HKA.out] at hP6
      exact ⟨rfl,L,ls,k+1,[],c :: t,its',tl',hP6,HO1.out.below hb56 (Nat.le_refl _),Nat.le_refl _,by rw [← HKA.out]; exact ha,hD,by simp,h1,by rw [← HA.out,h2]; rfl,hbw1.trans (hb56.mono (Nat.le_of_lt hb))⟩⟩
     go_wp2
     go_end0
     exact HE.out
    ·have HQ2:Box (isAtB lettersA sm a = true):=⟨by rw [hq2]; exact hal⟩
     have HL:=Box.mk hal
     clear hq2 hal
     go_wp2_with fail
     refine (isAt_any b a pg sm markA L _ HP1.out hs ha).mono ?_
     rw [HQ1.out]
     rintro e w5 ⟨rfl,hb5⟩
     have HP5:=Box.mk (HP1.out.below hb5 hb)
     go_wp2_with fail
     refine (isAt_any b a pg sm lettersA L _ HP5.out hs ha).mono ?_
     rw [HQ2.out]
     rintro e w6 ⟨rfl,hb6⟩
     have hb56:=hb5.trans (hb6.mono hb5.size)
     have HP6:=Box.mk (HP1.out.below hb56 hb)
     have HO6:=Box.mk (HO1.out.below hb56 (Nat.le_refl _))
     have hbw6:=hbw1.trans (hb56.mono (Nat.le_of_lt hb))
     have HG6:=Box.mk (HG.out.below hbw6)
     obtain ⟨its',tl',h1,h2⟩:∃ its' tl',Run (some (false,smallS ((c :: t).takeWhile alnumC))) ((c :: t).dropWhile alnumC) its' tl'∧∀ k,linksP k its = linksP (k+1+(smallS ((c :: t).takeWhile alnumC)).length) its':=by
      have hR:=HR.out
      rw [← HKA.out,HD.out] at hR
      exact top_tag c t HC.out HL.out its tl hR
     have HR2:=Box.mk h1
     have HA2:Box (ls.map lk2++linksP (a+(smallS ((c :: t).takeWhile alnumC)).length) its' = ALL):=⟨by rw [← HA.out,h2,HKA.out]⟩
     clear h1 h2
     go_wp2_with fail
     refine (tag_any b a pg sm L _ HP6.out HG6.out hl HS.out ha _ _ (by rw [HD.out]) (by rw [HD.out]) ls HO6.out its' tl' HR2.out ALL HA2.out HAl.out).mono ?_
     rintro e w7 ⟨rfl,L7,ls7,a7,z7,r7,its7,tl7,q1,q2,q3,q4,q5,q6,q7,q8,q9⟩
     have HE:Box (MarkPost pg sm b (k+1) w ALL (.returned (.tuple #[])) w7):=⟨⟨rfl,L7,ls7,a7,z7,r7,its7,tl7,q1,q2,by rw [← HKA.out]; exact q3,q4,q5,q6,q7,q8,hbw6.trans q9⟩⟩
     clear q1 q2 q3 q4 q5 q6 q7 q8 q9
     go_wp2
     go_end0
     exact HE.out
 ·have HPP:Box (Lib.hasPrefix (pg.extract a pg.size).data.toList openA.data.toList = true):=⟨by rw [HX.out]; exact hpp⟩
  obtain ⟨p,hp⟩:∃ p,pg.data.toList.drop a = 33 :: 45 :: 45 :: p:=by
   obtain ⟨p,hp⟩:=List.isPrefixOf_iff_prefix.1 hpp
   exact ⟨p,hp.symm⟩
  have hal:a+3 ≤ pg.size:=by
   have e:=congrArg List.length hp
   rw [List.length_drop,size_list] at e
   simp at e; omega
  have HD:=Box.mk hp
  clear hpp hp
  go_enter Tryz.func107,Tryz.ntmps107
  go_wp2_with fail
  go_region_held3 (fun w'=>w'.cell? ⟨b,0,none⟩ = some (.string pg)∧w'.cell? ⟨b,1,none⟩ = some (.string sm)∧w'.cell? ⟨b,2,none⟩ = some (.int .i64 (a:Int))∧Below w.heap.size w w')
   ((go_split_ands; exact pkeep3 c0 c1 c2 (by first | exact (Below.refl _ _).drew | assumption)))
   (first
    | (go_at_call 12; refine (Tryz.strings_HasPrefix _ openA _).mono ?_; rw [HPP.out]; rintro e w5 ⟨rfl,rfl⟩))
  obtain ⟨d0,d1,d2,d3,g2,g3,hb2⟩:=HP1.out.cells
  have HP2:=Box.mk (HP1.out.setA (a+3))
  rw [Int.natCast_add] at HP2
  have hg2:=pgrown_set w.drew b 2 (.int .i64 ((a:Int)+3))
  have HO2:=Box.mk (HO1.out.kept hg2 (Nat.lt_succ_self b))
  have hbw2:=hbw1.trans (below_of_grown hg2 (Nat.le_of_lt hb2))
  have HG2:=Box.mk (HG.out.below hbw2)
  go_wp2_with fail
  refine (seek_any b (a+3) pg sm shutA L _ HP2.out hl hs hal HG2.out.gp.mx).mono ?_
  rintro e w6 ⟨rfl,hP6,hg6⟩
  have HE:Box (MarkPost pg sm b (k+1) w ALL (.returned (.tuple #[])) w6):=⟨by
   have hP:=hP6
   have hal':=hal
   rw [HKA.out] at hP hal'
   exact mark_open pg sm HS.out b k w w6 ALL L ls p (by rw [← HKA.out]; exact HD.out) its tl HR.out HA.out hP (HO2.out.kept hg6 (Nat.lt_succ_self b)) hal' (hbw2.trans (below_of_grown hg6 (Nat.le_of_lt HP2.out.cells.2.2.2.2.2.2)))⟩
  clear hP6
  go_wp2
  go_end0
  exact HE.out
end Go.Proofs.YtknhacbfddggpaaGreatDoor
namespace Go.Proofs.YtknhacbfddggpaaGreatDoor
open Go.RowKit Go.Proofs.Px
theorem PGB.up {w:World} {b b':Nat} (h:PGB w b) (hb:b ≤ b'):PGB w b':=by
 have h0:=h.l0
 have h1:=h.l1
 have h2:=h.l2
 have h3:=h.l3
 exact ⟨⟨h.gp.words,h.gp.leads,h.gp.verbs,h.gp.mx,by omega,by omega,by omega,by omega⟩,by omega,by omega,by omega,by omega⟩
theorem run_count (m:Md) (s:List UInt8) (its:List PItem) (tl:List UInt8) (h:Run m s its tl):countP its ≤ s.length:=by
 induction h with
 | stop m s _=>exact Nat.zero_le _
 | go m m' s c r tl e its h0 _ ih =>
  match m with
  | none =>
   have h0:stepTop s = some (c,e,m',r):=h0
   obtain ⟨rfl,h1,h2,_⟩:=top_local s c r r e m' h0 rfl
   have:=congrArg List.length h1
   rw [List.length_append] at this
   rw [countP]
   omega
  | some (true,n) =>
   have h0:stepSkip n s = some (c,e,m',r):=h0
   unfold stepSkip at h0
   obtain ⟨q,hq,hq2⟩:=Option.map_eq_some_iff.1 h0
   simp only [Prod.mk.injEq] at hq2
   obtain ⟨rfl,rfl,rfl,rfl⟩:=hq2
   have:=congrArg List.length (findN_some _ _ q.1 q.2 hq).1
   rw [List.length_append] at this
   rw [countP]
   omega
  | some (false,n) =>
   have h0:stepTag n s = some (c,e,m',r):=h0
   match e with
   | none =>
    have:=congrArg List.length (tag_none n s c r r m' h0 rfl).1
    rw [List.length_append] at this
    rw [countP]
    omega
   | some (v,b) =>
    obtain ⟨_,h2,⟨_,q,_,_,h1,_⟩ | ⟨_,h1,_⟩⟩:=tag_some n s c r v b m' h0
    all_goals
     have:=congrArg List.length h1
     have:=List.length_pos_iff.2 h2
     simp only [List.length_append,List.length_cons] at *
     rw [countP]
     omega
theorem split_lt (z r x y:List UInt8) (h:z++r = x++60 :: y) (hz:60 ∉ z):∃ u,x = z++u∧r = u++60 :: y:=by
 rcases List.append_eq_append_iff.1 h with ⟨u,h1,h2⟩ | ⟨u,h1,h2⟩
 ·exact ⟨u,h1,h2⟩
 ·cases u with
  | nil=>exact ⟨[],by simpa using h1.symm,by simpa using h2.symm⟩
  | cons c u =>
   simp only [List.cons_append,List.cons.injEq] at h2
   exact absurd (by rw [h1]; simp [h2.1]) hz
structure LinksAt (pg:ByteArray) (ALL:List (Nat × Nat × List UInt8)) (a:Nat) (ls:List Lk):Prop where
 run:∃ z r its tl,pg.data.toList.drop a = z++r∧60 ∉ z∧Run none r its tl∧ls.map lk2++linksP (a+z.length) its = ALL
def lessA:ByteArray:=⟨#[60]⟩
set_option maxHeartbeats 4000000 in
set_option maxRecDepth 100000 in
theorem links_any (pg:ByteArray) (w:World) (hG:PGB w w.heap.size) (hl:pg.size ≤ 100000000) (its:List PItem) (tl:List UInt8) (hR:Run none pg.data.toList its tl) :
  Calls Tryz.prog 66 #[.string pg] w fun e w'=>∃ v ls,e = .returned v∧OwnL w' w.heap.size v ls∧ls.map lk2 = linksP 0 its∧Below w.heap.size w w':=by
 obtain ⟨ALL,HALL⟩:∃ ALL,Box (linksP 0 its = ALL):=⟨_,⟨rfl⟩⟩
 rw [HALL.out]
 have HAl:Box (ALL.length ≤ 100000000):=⟨by rw [← HALL.out,links_len]; have:=run_count none _ its tl hR; rw [size_list] at this; omega⟩
 have HL0:Box (LinksAt pg ALL 0 []):=⟨⟨[],pg.data.toList,its,tl,rfl,by simp,hR,HALL.out⟩⟩
 have HG:=Box.mk hG
 clear hG hR HALL
 go_enter Tryz.func66,Tryz.ntmps66
 go_wp2_with fail
 refine (small_any pg _ hl).mono ?_
 obtain ⟨sm,HSM⟩:∃ sm:ByteArray,Box (sm = ⟨(smallS pg.data.toList).toArray⟩):=⟨_,⟨rfl⟩⟩
 rw [← HSM.out]
 rintro e w1 ⟨rfl,hb1⟩
 have HS:Box (sm.data.toList = smallS pg.data.toList):=⟨by rw [HSM.out]⟩
 clear HSM
 go_wp2
 obtain ⟨b,HB⟩:∃ b,Box (w1.heap.size = b):=⟨_,⟨rfl⟩⟩
 have hb2:Below w1.heap.size w1 (w1.alloc (Obj.cells #[Value.string pg,Value.string sm,Value.int IntKind.i64 0,Value.slice none 0 0] 174)):=(Below.refl _ _).alloc (Nat.le_refl _) _
 have hP2:PR (w1.alloc (Obj.cells #[Value.string pg,Value.string sm,Value.int IntKind.i64 0,Value.slice none 0 0] 174)) b pg sm 0 (.slice none 0 0):=by
  rw [← HB.out]
  exact Array.getElem?_push_size
 have hs:sm.size = pg.size:=by rw [← size_list,HS.out,smallS_len,size_list]
 rw [HB.out]
 rw [HB.out] at hb2
 generalize w1.alloc (Obj.cells #[Value.string pg,Value.string sm,Value.int IntKind.i64 0,Value.slice none 0 0] 174) = w2 at hb2 hP2 ⊢
 have hwb:w.heap.size ≤ b:=by rw [← HB.out]; exact hb1.size
 have hb02:Below w.heap.size w w2:=hb1.trans (hb2.mono hwb)
 have HG2:=Box.mk ((HG.out.below hb02).up hwb)
 have hbl:=hP2.cells.2.2.2.2.2.2
 clear HB hb1 hb2
 go_loopg [] (pg.size - 0) (fun gf wx=>∃ a L ls,a ≤ pg.size∧PR wx b pg sm a L∧OwnL wx (b+1) L ls∧Box (LinksAt pg ALL a ls)∧Below b w2 wx∧pg.size - a ≤ gf)
 case atStart=>exact ⟨0,_,[],Nat.zero_le _,hP2,OwnL.nil _ _,HL0,Below.refl _ _,Nat.le_refl _⟩
 case round =>
  clear hP2 HL0
  obtain ⟨a,L,ls,ha,hr,hO,HT,hbw,hgf⟩:=hrel
  have hblt:=hr.cells.2.2.2.2.2.2
  have HR:=Box.mk hr
  have HO:=Box.mk hO
  have HGr:=Box.mk (HG2.out.below hbw)
  obtain ⟨hix,hsk⟩:=seek_fixed pg sm HS.out [60] (by simp) (by intro c hc; simp at hc; rw [hc]; exact fixed60) a
  clear hr hO
  cases hf:findL [60] (pg.data.toList.drop a) with
  | none =>
   rw [hf] at hix hsk
   have HIX:Box (decide (0 ≤ Lib.index (sm.data.toList.drop a) lessA.data.toList) = false):=⟨by
    have e:Lib.index (sm.data.toList.drop a) lessA.data.toList = -1:=hix
    rw [e]; rfl⟩
   have HA:Box (ls.map lk2 = ALL):=⟨by
    obtain ⟨z,r,its',tl',h1,h2,h3,h4⟩:=HT.out.run
    have hn:=findL_mem 60 _ hf
    rw [h1] at hn
    have:=run_none r (fun h=>hn (by simp [h])) its' tl' h3
    rw [this,linksP,List.append_nil] at h4
    exact h4⟩
   clear hix hsk hf
   go_wp2_with fail
   refine (seek_any b a pg sm lessA L _ HR.out hl hs ha HGr.out.gp.mx).mono ?_
   rw [HIX.out]
   rintro e w5 ⟨rfl,hP5,hg5⟩
   have hO5:=HO.out.kept hg5 (Nat.lt_succ_self b)
   have hb5:=hbw.trans (below_of_grown hg5 (Nat.le_of_lt hblt))
   obtain ⟨A5,cap5,hL5,hc5⟩:=hO5.len
   subst hL5
   obtain ⟨d0,d1,d2,d3,g2,g3,hb6⟩:=hP5.cells
   have HO5:=Box.mk hO5
   clear hP5 hO5
   go_wp2
   go_ret
   exact ⟨_,ls,rfl,HO5.out.mono (by omega),HA.out,hb02.trans (hb5.mono hwb)⟩
  | some q =>
   obtain ⟨x,y0⟩:=q
   obtain ⟨y,rfl⟩:=findL_one 60 _ x y0 hf
   have hxy:=(findL_some _ _ x _ hf).1
   rw [hf] at hix hsk
   have HIX:Box (decide (0 ≤ Lib.index (sm.data.toList.drop a) lessA.data.toList) = true):=⟨by
    have e:Lib.index (sm.data.toList.drop a) lessA.data.toList = ((x.length:Nat):Int):=hix
    rw [e]; exact decide_eq_true (by omega)⟩
   have HSK:Box (seekTo lessA.data.toList sm.data.toList pg.size a = a+x.length):=⟨hsk⟩
   have hdk:pg.data.toList.drop (a+x.length+1) = y:=by
    have:=drop_on _ a x _ hxy
    exact drop_on _ (a+x.length) [60] y this
   have hkl:a+x.length+1 ≤ pg.size:=by
    have e:=congrArg List.length hxy
    rw [List.length_drop,size_list] at e
    simp at e; omega
   obtain ⟨its',tl',hRm,hAm⟩:∃ its' tl',Run none (60 :: pg.data.toList.drop (a+x.length+1)) its' tl'∧ls.map lk2++linksP (a+x.length) its' = ALL:=by
    obtain ⟨z,r,its0,tl0,h1,h2,h3,h4⟩:=HT.out.run
    rw [h1] at hxy
    obtain ⟨u,hu1,hu2⟩:=split_lt z r x y hxy h2
    have hxn:=findL_ahead 60 _ x _ hf
    rw [hu2] at h3
    obtain ⟨its',tl',h5,h6⟩:=run_pre u (60 :: y) (fun h=>hxn (by rw [hu1]; simp [h])) its0 tl0 h3
    refine ⟨its',tl',by rw [hdk]; exact h5,?_⟩
    rw [← h4,← h6,hu1,List.length_append,Nat.add_assoc]
   have HRM:=Box.mk hRm
   have HAM:=Box.mk hAm
   clear hix hsk hf hxy hdk hRm hAm
   generalize a+x.length = k at HSK hkl HRM HAM
   have hak:a ≤ k:=by
    have:=HSK.out
    unfold seekTo at this
    split at this <;> omega
   go_wp2_with fail
   refine (seek_any b a pg sm lessA L _ HR.out hl hs ha HGr.out.gp.mx).mono ?_
   rw [HIX.out,HSK.out]
   rintro e w5 ⟨rfl,hP5,hg5⟩
   obtain ⟨d0,d1,d2,d3,g2,g3,hb6⟩:=hP5.cells
   have HP6:=Box.mk (hP5.setA (k+1))
   rw [Int.natCast_add] at HP6
   have hg6:=pgrown_set w5 b 2 (.int .i64 ((k:Int)+1))
   have HO6:=Box.mk ((HO.out.kept hg5 (Nat.lt_succ_self b)).kept hg6 (Nat.lt_succ_self b))
   have hb7:=(hbw.trans (below_of_grown hg5 (Nat.le_of_lt hblt))).trans (below_of_grown hg6 (Nat.le_of_lt hb6))
   have HG7:=Box.mk (HG2.out.below hb7)
   clear hP5 hg5 hg6
   go_wp2_with fail
   refine (mark_any b k pg sm L _ HP6.out HG7.out hl HS.out hkl ls HO6.out its' tl' HRM.out ALL HAM.out HAl.out).mono ?_
   rintro e w8 ⟨rfl,L8,ls8,a8,z8,r8,its8,tl8,q1,q2,q3,q4,q5,q6,q7,q8,q9⟩
   have HT8:Box (LinksAt pg ALL a8 ls8):=⟨⟨z8,r8,its8,tl8,q5,q6,q7,q8⟩⟩
   clear q5 q6 q7 q8
   have hb8:=hb7.trans q9
   go_wp2
   go_roundg (pg.size - a - 1)
   case measure=>omega
   case rel=>exact ⟨a8,L8,ls8,q4,q1,q2,HT8,hb8,by omega⟩
end Go.Proofs.YtknhacbfddggpaaGreatDoor
namespace Go.Proofs.YtknhacbfddggpaaGreatDoor
open Go.RowKit Go.Proofs.Px
def GoodI:PItem → Prop
 | (_,none)=>True
 | (c,some (_,true))=>∃ d,c.getLast? = some d∧(d = 34 ∨ d = 39)
 | (c,some (_,false))=>∃ d,c.getLast? = some d∧d ≠ 34∧d ≠ 39
theorem gap_noq (c:UInt8) (h:gapC c = true):c ≠ 34∧c ≠ 39:=by
 constructor <;> rintro rfl <;> exact absurd h (by decide)
theorem tag_goodI (n s c r v:List UInt8) (q:Bool) (m:Md) (h:stepTag n s = some (c,some (v,q),m,r)):GoodI (c,some (v,q)):=by
 unfold stepTag at h
 cases hs:s.dropWhile skipC with
 | nil=>rw [hs] at h; cases h
 | cons d t =>
  rw [hs] at h
  simp only at h
  by_cases h0:d = 62
  ·rw [if_pos h0] at h
   simp at h
  ·rw [if_neg h0] at h
   by_cases h1:t.dropWhile attrC = []
   ·rw [if_pos h1] at h; cases h
   ·rw [if_neg h1] at h
    by_cases h2:((t.dropWhile attrC).dropWhile gapC).head? = some 61
    ·rw [if_pos h2,val_by] at h
     generalize ((t.dropWhile attrC).dropWhile gapC).drop 1 = y at h
     cases hv:valS (y.dropWhile gapC) with
     | none=>rw [hv] at h; cases h
     | some vq =>
      obtain ⟨v',q'⟩:=vq
      rw [hv] at h
      simp only at h
      split at h
      ·simp only [Option.some.injEq,Prod.mk.injEq] at h
       obtain ⟨rfl,⟨rfl,rfl⟩,_,_⟩:=h
       cases q' with
       | true =>
        cases hy:y.dropWhile gapC with
        | nil=>rw [hy] at hv; cases hv
        | cons e z =>
         rw [hy,valS] at hv
         have he:e = 34 ∨ e = 39:=by
          by_cases he:e = 34 ∨ e = 39
          ·exact he
          ·rw [if_neg he] at hv
           split at hv
           ·cases hv
           ·simp at hv
         refine ⟨e,?_,he⟩
         have:qn true = 1:=rfl
         rw [this,List.getLast?_append]
         simp
       | false =>
        have:qn false = 0:=rfl
        rw [this,List.take_zero,List.append_nil]
        cases hg:(y.takeWhile gapC).getLast? with
        | none =>
         refine ⟨61,?_,by decide,by decide⟩
         rw [List.getLast?_append,hg,Option.none_or,List.getLast?_append]
         rfl
        | some g =>
         have hgm:gapC g = true:=takeWhile_all _ g (List.mem_of_getLast? hg)
         refine ⟨g,?_,(gap_noq g hgm).1,(gap_noq g hgm).2⟩
         rw [List.getLast?_append,hg]
         rfl
      ·simp at h
    ·rw [if_neg h2] at h
     simp at h
theorem run_goodI (m:Md) (s:List UInt8) (its:List PItem) (tl:List UInt8) (h:Run m s its tl):∀ it ∈ its,GoodI it:=by
 induction h with
 | stop m s _=>intro it hit; cases hit
 | go m m' s c r tl e its h0 _ ih =>
  intro it hit
  rcases List.mem_cons.1 hit with rfl | hit
  ·match m with
   | none =>
    have h0:stepTop s = some (c,e,m',r):=h0
    obtain ⟨rfl,_⟩:=top_local s c r r e m' h0 rfl
    exact trivial
   | some (true,n) =>
    have h0:stepSkip n s = some (c,e,m',r):=h0
    unfold stepSkip at h0
    obtain ⟨q,hq,hq2⟩:=Option.map_eq_some_iff.1 h0
    simp only [Prod.mk.injEq] at hq2
    obtain ⟨rfl,rfl,rfl,rfl⟩:=hq2
    exact trivial
   | some (false,n) =>
    match e with
    | none=>exact trivial
    | some (v,q)=>exact tag_goodI n s c r v q m' h0
  ·exact ih it hit
theorem next_good:∀ its:List PItem,(∀ it ∈ its,GoodI it) →
  (countP its = 0∧∀ (vs:List (List UInt8)) (tl:List UInt8),outP its vs tl = srcP its tl)
  ∨ ∃ (c v op cl cl':List UInt8) (its':List PItem) (d:UInt8),countP its = countP its'+1∧(∀ it ∈ its',GoodI it)∧c.getLast? = some d
   ∧ ((op = []∧cl' = cl∧(d = 34 ∨ d = 39)) ∨ (op = [34]∧cl = []∧cl' = [34]∧¬ (d = 34 ∨ d = 39)))
   ∧ (∀ tl,srcP its tl = c++(v++(cl++srcP its' tl)))
   ∧ (∀ k,linksP k its = (k+c.length,v.length,unescS v) :: linksP (k+c.length+v.length+cl.length) its')
   ∧ (∀ (vs:List (List UInt8)) (tl:List UInt8),outP its vs tl = c++(op++(vs.headD []++(cl'++outP its' vs.tail tl))))
 | [],_=>.inl ⟨rfl,fun _ _=>rfl⟩
 | (c,none) :: its,hg=>by
  rcases next_good its (fun it h=>hg it (by simp [h])) with ⟨h1,h2⟩ | ⟨c1,v,op,cl,cl',its',d,h0,hg',hl,h1,h2,h3,h4⟩
  ·exact .inl ⟨h1,fun vs tl=>by rw [outP,srcP,h2]⟩
  ·refine .inr ⟨c++c1,v,op,cl,cl',its',d,h0,hg',by rw [List.getLast?_append,hl]; rfl,h1,fun tl=>?_,fun k=>?_,fun vs tl=>?_⟩
   ·rw [srcP,h2]; simp
   ·rw [linksP,h3,List.length_append,Nat.add_assoc k]
   ·rw [outP,h4]; simp
 | (c,some (v,true)) :: its,hg=>by
  obtain ⟨d,hd1,hd2⟩:=hg (c,some (v,true)) (by simp)
  exact .inr ⟨c,v,[],[c.getLast?.getD 0],[c.getLast?.getD 0],its,d,rfl,fun it h=>hg it (by simp [h]),hd1,.inl ⟨rfl,rfl,hd2⟩,fun tl=>rfl,fun k=>rfl,fun vs tl=>rfl⟩
 | (c,some (v,false)) :: its,hg=>by
  obtain ⟨d,hd1,hd2,hd3⟩:=hg (c,some (v,false)) (by simp)
  exact .inr ⟨c,v,[34],[],[34],its,d,rfl,fun it h=>hg it (by simp [h]),hd1,.inr ⟨rfl,rfl,rfl,fun h=>h.elim hd2 hd3⟩,fun tl=>rfl,fun k=>rfl,fun vs tl=>rfl⟩
def wrS (x:List UInt8) (c:UInt8):List UInt8:=if c = 34 ∨ c = 39 then escS x else 34 :: (escS x++[34])
structure RepAt (s tl T:List UInt8) (lks:List (Nat × Nat × List UInt8)) (xs:List (List UInt8)) (d:Nat) (O:List UInt8):Prop where
 ex:∃ its pend,(∀ it ∈ its,GoodI it)∧s.drop d = pend++srcP its tl∧lks = linksP (d+pend.length) its∧O++(pend++outP its (xs.map escS) tl) = T∧d ≤ s.length
theorem rep_begin (s:List UInt8) (its:List PItem) (tl:List UInt8) (h:Run none s its tl) (xs:List (List UInt8)):RepAt s tl (outP its (xs.map escS) tl) (linksP 0 its) xs 0 []:=
 ⟨its,[],run_goodI _ _ _ _ h,by have:=(page_turned s its tl h []).1; simpa using this,rfl,rfl,Nat.zero_le _⟩
theorem rep_end {s tl T:List UInt8} {xs:List (List UInt8)} {d:Nat} {O:List UInt8} (h:RepAt s tl T [] xs d O):O++s.drop d = T:=by
 obtain ⟨its,pend,hg,h1,h2,h3,_⟩:=h.ex
 rcases next_good its hg with ⟨_,h4⟩ | ⟨c,v,op,cl,cl',its',d',h0,hg',hl,_,_,h5,_⟩
 ·rw [h4] at h3
  rw [h1,h3]
 ·rw [h5] at h2; cases h2
theorem rep_step {s tl T V:List UInt8} {lks:List (Nat × Nat × List UInt8)} {x:List UInt8} {xs:List (List UInt8)} {a n d:Nat} {O:List UInt8} (h:RepAt s tl T ((a,n,V) :: lks) (x :: xs) d O) :
  d ≤ a∧1 ≤ a∧a+n ≤ s.length∧∀ c,s[a - 1]? = some c → RepAt s tl T lks xs (a+n) (O++(s.drop d).take (a - d)++wrS x c):=by
 obtain ⟨its,pend,hg,h1,h2,h3,hd⟩:=h.ex
 rcases next_good its hg with ⟨h4,h5⟩ | ⟨c,v,op,cl,cl',its',d',h0,hg',hl,hop,h4,h5,h6⟩
 ·have:=congrArg List.length h2
  rw [links_len,h4] at this
  simp at this
 ·rw [h5] at h2
  simp only [List.cons.injEq,Prod.mk.injEq] at h2
  obtain ⟨⟨rfl,rfl,rfl⟩,rfl⟩:=h2
  have hcl:0 < c.length:=by
   cases c with
   | nil=>cases hl
   | cons _ _=>simp
  rw [h4] at h1
  have hlen:=congrArg List.length h1
  rw [List.length_drop] at hlen
  simp only [List.length_append] at hlen
  refine ⟨by omega,by omega,by omega,?_⟩
  intro e he
  have h1':s.drop d = (pend++c)++(v++(cl++srcP its' tl)):=by rw [h1]; simp
  have hed:e = d':=by
   have e1:(s.drop d)[pend.length+c.length - 1]? = some e:=by
    rw [List.getElem?_drop,← he]
    congr 1
    omega
   rw [h1',List.getElem?_append_left (by simp; omega)] at e1
   have e2:(pend++c).getLast? = some d':=by rw [List.getLast?_append,hl]; rfl
   rw [List.getLast?_eq_getElem?,List.length_append] at e2
   rw [e1] at e2
   exact Option.some.inj e2
  subst hed
  have htk:(s.drop d).take (d+pend.length+c.length - d) = pend++c:=by
   rw [h1']
   exact List.take_left' (by simp; omega)
  rw [htk]
  have hdr:s.drop (d+pend.length+c.length+v.length) = cl++srcP its' tl:=by
   have:=drop_on s d (pend++c) _ h1'
   have:=drop_on s _ v _ this
   rw [List.length_append] at this
   rw [← this]
   congr 1
   omega
  refine ⟨its',cl,hg',hdr,?_,?_,by omega⟩
  ·rfl
  ·rw [← h3,h6]
   rcases hop with ⟨rfl,rfl,hq⟩ | ⟨rfl,rfl,rfl,hq⟩
   ·unfold wrS
    rw [if_pos hq]
    simp
   ·unfold wrS
    rw [if_neg hq]
    simp
set_option maxHeartbeats 100000000 in
theorem pwritten_any (s:ByteArray) (c:UInt8) (w:World) (hW:Words w) (hs:s.size ≤ 100000000) :
  Calls Tryz.prog 96 #[.string s,.int .u8 (c.toNat:Int)] w fun e w'=>∃ S:ByteArray,e = .returned (.string S)∧S.data.toList = wrS s.data.toList c∧S.size ≤ 600000002∧Below w.heap.size w w':=by
 have hix:∀ w,Calls Tryz.prog 132 #[.string quotesA,.int .u8 (c.toNat:Int)] w fun e w'=>e = .returned (.int .i64 (Lib.indexByte quotesA.data.toList c))∧w' = w:=by
  intro w
  refine (Tryz.strings_IndexByte _ _ w).mono ?_
  rintro e w' ⟨rfl,rfl⟩
  refine ⟨?_,rfl⟩
  congr 4
  simp
 have hq:decide (0 ≤ Lib.indexByte quotesA.data.toList c) = (c == 34 || c == 39):=by
  rw [idx_has]
  show List.elem c [34,39] = _
  simp only [List.elem]
  cases c == 34 <;> cases c == 39 <;> rfl
 have HX:=Box.mk hix
 obtain ⟨z,hz⟩:∃ z,Lib.indexByte quotesA.data.toList c = z:=⟨_,rfl⟩
 rw [hz] at HX hq
 clear hix hz
 have HW:=Box.mk hW
 clear hW
 by_cases hc:c = 34 ∨ c = 39
 ·have hz0:0 ≤ z:=by
   have:decide (0 ≤ z) = true:=by rw [hq]; rcases hc with rfl | rfl <;> rfl
   exact of_decide_eq_true this
  unfold wrS
  rw [if_pos hc]
  clear hq
  go_enter Tryz.func96,Tryz.ntmps96
  go_wp2_with (first
   | (go_at_call 132; refine (HX.out _).mono ?_; rintro e w6 ⟨rfl,rfl⟩)
   | (go_at_call 143; refine (escape_any s _ HW.out hs).mono ?_; rintro e w7 ⟨S,rfl,hS,hb7⟩))
  go_ret
  refine ⟨S,rfl,hS,?_,hb7⟩
  have:=escS_len s.data.toList
  rw [← hS,size_list,size_list] at this
  omega
 ·have hz0:¬ 0 ≤ z:=by
   intro h
   have:decide (0 ≤ z) = true:=decide_eq_true h
   rw [hq] at this
   simp only [Bool.or_eq_true,beq_iff_eq] at this
   exact hc this
  have hz1:z < 0:=by omega
  unfold wrS
  rw [if_neg hc]
  clear hq
  go_enter Tryz.func96,Tryz.ntmps96
  go_wp2_with (first
   | (go_at_call 132; refine (HX.out _).mono ?_; rintro e w6 ⟨rfl,rfl⟩)
   | (go_at_call 143; refine (escape_any s _ HW.out hs).mono ?_; rintro e w7 ⟨S,rfl,hS,hb7⟩; have hSl:S.size ≤ 600000000:=(by have:=escS_len s.data.toList; rw [← hS,size_list,size_list] at this; omega)))
  go_ret
  refine ⟨_,rfl,?_,?_,hb7⟩
  ·rw [ByteArray.data_append,Array.toList_append,ByteArray.data_append,Array.toList_append,hS]; rfl
  ·rw [ByteArray.size_append,ByteArray.size_append]; show 1+S.size+1 ≤ _; omega
end Go.Proofs.YtknhacbfddggpaaGreatDoor
