import Derived.Test.YtknhacbfddggpaaGreatDoorZ32
import Derived.Test.YtknhacbfddggpaaGreatDoorZ10
namespace Go.Proofs.YtknhacbfddggpaaGreatDoor
open Go.RowKit
theorem back_some (p:PT) (t:List UInt8) (h:topW (writeC 4 0 p) = .ok t):∃ r,readTop t = .ok r∧t.length ≤ 20000∧Back p r:=by
 unfold topW at h
 cases hw:writeC 4 0 p with
 | error c=>rw [hw] at h; cases h
 | ok q =>
  rw [hw] at h
  simp only at h
  split at h
  ·cases h
  ·rename_i hl
   obtain ⟨t',n⟩:=q
   simp only at hl h
   obtain rfl:t' = t:=Except.ok.inj h
   have hT:writeT Y0 4 0 p = .ok (t',n):=by
    rw [← writeB_T]
    exact same_small' (same_write 4 0 p) hw (by omega)
   obtain ⟨r,h1,h2,h3,h4⟩:=part_back2 Y0 4 0 p t' n hT (by omega)
   refine ⟨r,?_,by omega,h4⟩
   unfold readTop
   rw [if_neg hl,readU_T,h1]
theorem backL_form (bs:List BP) (k:Nat):∀ (ps:List BP) (i:Nat) (qs:List PT),BackL (ps.mapIdx fun n p=>bindP bs k (n+i) p) qs → ∃ hows:Nat → List UInt8,qs = ps.mapIdx fun n p=>.mk (stripH (withId p.head (n+i) k)++[(cteB,hows (n+i))]) (boundP bs p k) false []
 | [],i,qs,h=>by
  rw [List.mapIdx_nil] at h
  cases h
  exact ⟨fun _=>[],rfl⟩
 | p :: ps,i,qs,h=>by
  rw [List.mapIdx_cons] at h
  cases h with
  | cons _ q _ qs h1 h2 =>
   have e:(fun n p=>bindP bs k (n+1+i) p) = fun n p=>bindP bs k (n+(i+1)) p:=by
    funext n p
    rw [show n+1+i = n+(i+1) by omega]
   rw [e] at h2
   obtain ⟨hows,rfl⟩:=backL_form bs k ps (i+1) qs h2
   unfold bindP at h1
   cases h1 with
   | one _ _ how _ =>
    refine ⟨fun n=>if n = i then how else hows n,?_⟩
    rw [List.mapIdx_cons]
    congr 1
    ·simp
    ·congr 1
     funext n p
     have e1:n+1+i = n+(i+1):=by omega
     rw [e1]
     show _ = PT.mk (_++[(cteB,if n+(i+1) = i then how else hows (n+(i+1)))]) _ false []
     rw [if_neg (by omega)]
theorem back_form (b:BB) (k:Nat) (r:PT) (h:Back (bindB b k) r):∃ bd hows,okBd bd∧r = backB b k bd hows:=by
 unfold bindB at h
 cases h with
 | many _ _ bd _ qs hbd hl =>
  obtain ⟨hows,e⟩:=backL_form b.ps k b.ps 0 qs hl
  refine ⟨bd,hows,hbd,?_⟩
  rw [backB,e]
  rfl
structure HdB (L:List PB):Prop where
 right:L.all rightB = true
 len:L.length ≤ 2990
 fs:∀ f ∈ L,f.1.length ≤ 2500∧f.2.length ≤ 2500
 sz:hsz L ≤ 9000
structure First (b:BB):Prop where
 op:Opened b
 hd:HdB b.head
 many:∃ e,maniesS b.head = .ok (some e)
 n:b.ps.length ≤ 60
 ps:∀ p ∈ b.ps,HdB p.head∧maniesS p.head = .ok none∧p.body.length ≤ 3000
theorem allG_each {α β:Type} (f:Nat → α → Except Nat (β × Nat)):∀ (xs:List α) (n:Nat) (r:List β × Nat),allG f xs n = .ok r → ∀ x ∈ xs,∃ m y,f m x = .ok y
 | [],_,_,_=>fun x hx=>by cases hx
 | x :: xs,n,r,h=>by
  obtain ⟨y,k,zs,h1,h2,_⟩:=allG_ok f x xs n r.2 r.1 h
  intro z hz
  rcases List.mem_cons.1 hz with rfl | hz
  ·exact ⟨n,_,h1⟩
  ·exact allG_each f xs k _ h2 z hz
theorem first_of (s:List UInt8) (p:PT) (b:BB) (h:readTop s = .ok p) (hs:s.length ≤ 2500) (ho:openB p = some b):First b:=by
 have hsm:=top_sm s p h hs
 have hop:=opened_of p b ho
 obtain ⟨n',t,hw⟩:∃ n' t,writeT Y0 4 0 p = .ok (t,n'):=by
  unfold readTop at h
  split at h
  ·cases h
  ·cases hr:readU 4 0 s with
   | error c=>rw [hr] at h; cases h
   | ok r =>
    rw [hr] at h
    cases h
    rw [readU_T] at hr
    obtain ⟨t,ht⟩:=read_writes Y0 4 0 s r.1 r.2 hr
    exact ⟨_,t,ht⟩
 obtain ⟨L,x,m,ps⟩:=p
 obtain ⟨hn,hL,hf⟩:=write_forms Y0 3 0 n' L x m ps t hw
 obtain ⟨⟨s1,s2,s3⟩,s4,s5,s6⟩:=hsm
 rw [openB] at ho
 split at ho
 ·rename_i hc
  simp only [Bool.and_eq_true,decide_eq_true_eq,Bool.not_eq_true',List.isEmpty_eq_false_iff] at hc
  obtain ⟨⟨hk,hne⟩,hall⟩:=hc
  obtain rfl:=Option.some.inj ho
  rcases hf with ⟨rfl,rfl,b0,xs,hm,ha,_⟩ | ⟨_,rfl,_⟩
  ·refine ⟨hop,⟨hL,s1,s2,s3⟩,⟨b0,hm⟩,by simpa using s5,?_⟩
   intro q hq
   obtain ⟨r,hr,rfl⟩:=List.mem_map.1 hq
   obtain ⟨mm,y,hy⟩:=allG_each _ _ _ _ ha r hr
   have hmr:=List.all_eq_true.1 hall r hr
   have hsr:=s6 r hr
   obtain ⟨L',x',m',ps'⟩:=r
   have hm':m' = false:=by simpa [manyB] using hmr
   subst hm'
   obtain ⟨⟨t1,t2,t3⟩,t4,t5,t6⟩:=hsr
   obtain ⟨_,hL',hf'⟩:=write_forms Y0 2 mm y.2 L' x' false ps' y.1 hy
   rcases hf' with ⟨hbad,_⟩ | ⟨_,_,hm2,_⟩
   ·cases hbad
   ·exact ⟨⟨hL',t1,t2,t3⟩,hm2,t4⟩
  ·exact absurd rfl hne
 ·cases ho
theorem saysS_angled (n k:Nat):saysS (angledB (newId n k)) = true:=by
 unfold saysS
 rw [Bool.and_eq_true]
 refine ⟨?_,?_⟩
 ·rw [List.all_eq_true]
  intro c hc
  have h1:=List.all_eq_true.1 (newId_in n k) c hc
  unfold inC at h1
  unfold sayC
  simp only [Bool.and_eq_true,decide_eq_true_eq,Bool.or_eq_true] at h1 ⊢
  exact ⟨.inl h1.1,by omega⟩
 ·have hb:∀ c:UInt8,c ≠ 32 → c ≠ 9 → blk c = false:=by
   intro c h1 h2
   unfold blk
   simp [h1,h2]
  rw [decide_eq_true_eq]
  unfold trimS dropB dropE angledB
  rw [List.dropWhile_cons_of_neg (by rw [hb 60 (by decide) (by decide)]; decide)]
  rw [List.reverse_cons,List.reverse_append]
  simp only [List.reverse_cons,List.reverse_nil,List.nil_append,List.cons_append]
  rw [List.dropWhile_cons_of_neg (by rw [hb 62 (by decide) (by decide)]; decide)]
  simp
theorem withId_right (L:List PB) (n k:Nat) (h:L.all rightB = true):(withId L n k).all rightB = true:=by
 unfold withId
 rw [List.all_append,Bool.and_eq_true]
 refine ⟨?_,?_⟩
 ·rw [List.all_eq_true] at h ⊢
  exact fun f hf=>h f (List.mem_filter.1 hf).1
 ·rw [List.all_cons,List.all_nil,Bool.and_true]
  unfold rightB
  rw [saysS_angled]
  have:nameS ciB = true:=by decide
  show (nameS ciB && true) = true
  rw [this]
  rfl
theorem withId_manies (L:List PB) (n k:Nat):maniesS (withId L n k) = maniesS L:=by
 unfold maniesS
 rw [getB_withId,if_neg (by decide)]
theorem setV_mem (v:List UInt8):∀ (L:List PB),∀ f ∈ setV v L,f ∈ L ∨ ((∃ g ∈ L,f.1 = g.1)∧f.2 = v)
 | [],f,hf=>by cases hf
 | g :: L,f,hf=>by
  unfold setV at hf
  split at hf
  ·rcases List.mem_cons.1 hf with rfl | hf
   ·exact .inr ⟨⟨g,by simp,rfl⟩,rfl⟩
   ·exact .inl (by simp [hf])
  ·rcases List.mem_cons.1 hf with rfl | hf
   ·exact .inl (by simp)
   ·rcases setV_mem v L f hf with h | ⟨⟨x,hx,h1⟩,h2⟩
    ·exact .inl (by simp [h])
    ·exact .inr ⟨⟨x,by simp [hx],h1⟩,h2⟩
theorem setV_len (v:List UInt8) (L:List PB):(setV v L).length = L.length:=by
 induction L with
 | nil=>rfl
 | cons f L ih =>
  unfold setV
  split
  ·simp
  ·simp [ih]
theorem setV_hsz (v:List UInt8) (L:List PB):hsz (setV v L) ≤ hsz L+v.length:=by
 induction L with
 | nil=>simp [setV,hsz]
 | cons f L ih =>
  unfold setV
  split
  ·rw [hsz_cons,hsz_cons]; simp only; omega
  ·rw [hsz_cons,hsz_cons]; omega
theorem withStart_right (L:List PB) (n k:Nat) (h:L.all rightB = true) (hr:(kindB L).1 = relN):(withStart L (newId n k)).all rightB = true:=by
 obtain ⟨f,ps,h1,h2,h3,h4⟩:=started_read L hr n k
 have hs:saysS (startedB L (newId n k)) = true:=by
  unfold startedB
  rw [h2]
  exact write_says _ _ h3
 rw [List.all_eq_true] at h ⊢
 intro g hg
 unfold withStart at hg
 rcases setV_mem _ L g hg with hm | ⟨⟨x,hx,e1⟩,e2⟩
 ·exact h g hm
 ·have:=h x hx
  unfold rightB at this ⊢
  rw [e1,e2,hs]
  rw [Bool.and_eq_true] at this
  rw [this.1]
  rfl
theorem getPB_started (ps:List PB) (v:List UInt8):getPB ((ps.filter fun p=>!decide (p.1 = stN))++[(stN,v)]) = getPB ps:=by
 unfold getPB
 congr 2
 rw [List.find?_append]
 have e2:[(stN,v)].find? (fun p=>decide (p.1 = bdN)) = none:=by
  rw [List.find?_cons_of_neg (by simp; decide)]
  rfl
 rw [e2,Option.or_none]
 induction ps with
 | nil=>rfl
 | cons p ps ih =>
  rw [List.filter_cons]
  by_cases hs:p.1 = stN
  ·have hb:p.1 ≠ bdN:=by rw [hs]; decide
   rw [if_neg (by simp [hs]),ih,List.find?_cons_of_neg (by simpa using hb)]
  ·rw [if_pos (by simp [hs])]
   by_cases hb:p.1 = bdN
   ·rw [List.find?_cons_of_pos (by simpa using hb),List.find?_cons_of_pos (by simpa using hb)]
   ·rw [List.find?_cons_of_neg (by simpa using hb),List.find?_cons_of_neg (by simpa using hb),ih]
theorem withStart_manies (L:List PB) (n k:Nat) (hr:(kindB L).1 = relN) (hm:∃ e,maniesS L = .ok (some e)):∃ e,maniesS (withStart L (newId n k)) = .ok (some e):=by
 obtain ⟨f,ps,h1,h2,h3,h4⟩:=started_read L hr n k
 obtain ⟨e,he⟩:=hm
 refine ⟨e,?_⟩
 have hk:readK f.2 = some (relN,ps):=by
  obtain ⟨f',ps',g1,g2,g3⟩:=kind_said L relN rel_ne hr
  rw [h1] at g1
  obtain rfl:=Option.some.inj g1
  rw [g2]
  rw [h2] at g3
  rw [g3]
 unfold maniesS at he ⊢
 unfold withStart
 rw [getB_setV,if_pos rfl,h1,Option.map_some]
 rw [h1] at he
 simp only at he ⊢
 rw [h4]
 rw [hk] at he
 simp only at he ⊢
 rw [getPB_started]
 exact he
theorem bind_err (b:BB) (h:First b) (k c:Nat) (hw:topW (writeC 4 0 (bindB b k)) = .error c):c = 4:=by
 have hall:∀ (ps:List BP) (i n e:Nat),(∀ p ∈ ps,p ∈ b.ps) → allG (writeG freeU 3) (ps.mapIdx fun n p=>bindP b.ps k (n+i) p) n = .error e → e = 4:=by
  intro ps
  induction ps with
  | nil=>intro i n e _ h; rw [List.mapIdx_nil] at h; cases h
  | cons p ps ih =>
   intro i n e hm hx
   rw [List.mapIdx_cons,allG_cons] at hx
   obtain ⟨hp,hq,_⟩:=h.ps p (hm p (by simp))
   have hmay:mayU (withId p.head (0+i) k) (boundP b.ps p k) false 0 = true:=by
    unfold mayU
    rw [withId_right _ _ _ hp.right,withId_manies,hq]
    rfl
   have e1:writeG freeU 3 n (bindP b.ps k (0+i) p) = .error 4 ∨ ∃ q,writeG freeU 3 n (bindP b.ps k (0+i) p) = .ok q:=by
    unfold bindP writeG
    by_cases h40:40 ≤ n
    ·rw [if_pos h40]; exact .inl rfl
    ·rw [if_neg h40,List.length_nil,hmay]
     exact .inr ⟨_,rfl⟩
   rcases e1 with e1 | ⟨q,e1⟩
   ·rw [e1] at hx
    cases hx
    rfl
   ·rw [e1] at hx
    simp only at hx
    have e2:(fun n p=>bindP b.ps k (n+1+i) p) = fun n p=>bindP b.ps k (n+(i+1)) p:=by
     funext n p
     rw [show n+1+i = n+(i+1) by omega]
    rw [e2] at hx
    cases hy:allG (writeG freeU 3) (ps.mapIdx fun n p=>bindP b.ps k (n+(i+1)) p) q.2 with
    | error e' =>
     rw [hy] at hx
     cases hx
     exact ih (i+1) _ _ (fun z hz=>hm z (by simp [hz])) hy
    | ok r=>rw [hy] at hx; cases hx
 unfold topW at hw
 cases hx:writeC 4 0 (bindB b k) with
 | ok q =>
  rw [hx] at hw
  simp only at hw
  split at hw
  ·cases hw; rfl
  ·cases hw
 | error c' =>
  rw [hx] at hw
  cases hw
  have hx:writeG freeU 4 0 (bindB b k) = .error c:=hx
  unfold bindB writeG at hx
  obtain ⟨e,he⟩:=withStart_manies b.head b.root k h.op.rel h.many
  have hmay:mayU (withStart b.head (newId b.root k)) [] true (b.ps.mapIdx fun n p=>bindP b.ps k n p).length = true:=by
   unfold mayU
   rw [withStart_right _ _ _ h.hd.right h.op.rel,he]
   rfl
  rw [if_neg (by omega),hmay] at hx
  simp only [Bool.true_eq_false,if_false,if_true] at hx
  cases hy:allG (writeG freeU 3) (b.ps.mapIdx fun n p=>bindP b.ps k n p) (0+1) with
  | error e' =>
   rw [hy] at hx
   cases hx
   exact hall b.ps 0 _ _ (fun p hp=>hp) hy
  | ok r=>rw [hy] at hx; cases hx
theorem escW_len (c:UInt8):(escW c).length ≤ 6:=by
 unfold escW
 repeat' split
 all_goals simp
theorem escS_len (s:List UInt8):(escS s).length ≤ 6 * s.length:=by
 induction s with
 | nil=>simp [escS]
 | cons c s ih =>
  have:=escW_len c
  have e:escS (c :: s) = escW c++escS s:=by simp [escS]
  rw [e,List.length_append,List.length_cons]
  omega
theorem escS_same (s:List UInt8) (h:∀ c ∈ s,plainQ c):escS s = s:=by
 induction s with
 | nil=>rfl
 | cons c s ih =>
  have e:escS (c :: s) = escW c++escS s:=by simp [escS]
  obtain ⟨h1,h2,h3,h4,h5⟩:=h c (by simp)
  have e2:escW c = [c]:=by unfold escW; simp [h1,h2,h3,h4,h5]
  rw [e,e2,ih (fun x hx=>h x (by simp [hx]))]
  rfl
theorem escS_app (a b:List UInt8):escS (a++b) = escS a++escS b:=by simp [escS]
theorem dig_plain (n:Nat):∀ c ∈ Lib.decDigits n,plainQ c:=by
 intro c hc
 have:=digits_are n c hc
 unfold plainQ
 refine ⟨?_,?_,?_,?_,?_⟩ <;> (rintro rfl; simp at this)
theorem newId_plain (n k:Nat):∀ c ∈ newId n k,plainQ c:=by
 intro c hc
 unfold newId at hc
 simp only [List.mem_append] at hc
 rcases hc with hc | hc | hc
 ·have key:∀ c ∈ partN,plainQ c:=by unfold plainQ; decide
  exact key c hc
 ·exact dig_plain n c hc
 ·exact mark_plain k c hc
theorem newId_len (n k:Nat) (hn:n < 100) (hk:(markB k).length ≤ 12):(newId n k).length ≤ 18:=by
 unfold newId
 rw [List.length_append,List.length_append,Lib.decDigits_length]
 have:=nDigits_le 1 n (by omega)
 have e:partN.length = 4:=rfl
 omega
theorem bound_len (ps:List BP) (loc:AB) (k:Nat) (v:List UInt8) (hp:ps.length ≤ 60) (hk:(markB k).length ≤ 12):(escS (boundV ps loc k v)).length ≤ 6 * v.length+23:=by
 unfold boundV
 cases hl:(leadB ps loc v).2 with
 | none=>have:=escS_len v; simp only; omega
 | some n =>
  have hn:n < ps.length:=by
   unfold leadB at hl
   cases hr:readA v with
   | none=>rw [hr] at hl; cases hl
   | some x=>rw [hr] at hl; exact findB_lt _ _ _ hl
  have hfr:(((readA v).getD zeroA).frag).length ≤ v.length:=by
   cases hr:readA v with
   | none=>simp [zeroA]
   | some x =>
    have h1:=read_write v x hr
    simp only [Option.getD_some]
    cases hf:x.hasF with
    | false=>rw [h1.2.frag0 hf]; simp
    | true =>
     have h2:=congrArg List.length h1.1
     unfold writeA at h2
     rw [hf] at h2
     simp only [List.length_append,if_true,List.length_cons] at h2
     omega
  have hi:=newId_len n k (by omega) hk
  simp only
  generalize ((readA v).getD zeroA).hasF = hf at *
  generalize ((readA v).getD zeroA).frag = fr at *
  have e:writeA (cidA n k hf fr) = ([99,105,100,58]++newId n k)++(if hf then 35 :: fr else []):=by
   unfold writeA cidA
   simp [cidN]
  have hpl:∀ c ∈ [99,105,100,58]++newId n k,plainQ c:=by
   intro c hc
   rcases List.mem_append.1 hc with hc | hc
   ·have key:∀ c ∈ ([99,105,100,58]:List UInt8),plainQ c:=by unfold plainQ; decide
    exact key c hc
   ·exact newId_plain n k c hc
  rw [e,escS_app,escS_same _ hpl,List.length_append,List.length_append]
  have e4:([99,105,100,58]:List UInt8).length = 4:=rfl
  cases hf with
  | false=>simp [escS]; omega
  | true =>
   have e5:escS (35 :: fr) = [35]++escS fr:=by
    have:escS (35 :: fr) = escW 35++escS fr:=by simp [escS]
    rw [this]
    rfl
   simp only [if_true]
   rw [e5,List.length_append,List.length_singleton]
   have:=escS_len fr
   omega
def valsP:List PItem → Nat
 | []=>0
 | (_,none) :: its=>valsP its
 | (_,some (v,_)) :: its=>v.length+valsP its
theorem unesc_len (s:List UInt8):(unescS s).length ≤ s.length:=by
 have:∀ (k:Nat) (s:List UInt8),(unescF k s).length ≤ s.length:=by
  intro k
  induction k with
  | zero=>intro s; cases s <;> simp [unescF]
  | succ k ih =>
   intro s
   cases s with
   | nil=>simp [unescF]
   | cons c r =>
    show List.length (match signs.find? (fun w=>w.1.isPrefixOf (smallS (c :: r))) with | some w=>w.2 :: unescF k ((c :: r).drop w.1.length) | none=>c :: unescF k r) ≤ _
    split
    ·rename_i w hf
     have hm:=List.mem_of_find?_eq_some hf
     have hp:0 < w.1.length:=by
      have key:∀ w ∈ signs,0 < w.1.length:=by decide
      exact key w hm
     have h1:=ih ((c :: r).drop w.1.length)
     rw [List.length_drop,List.length_cons] at h1
     rw [List.length_cons,List.length_cons]
     omega
    ·have:=ih r
     simp only [List.length_cons]
     omega
 exact this _ s
theorem out_len (F:List UInt8 → List UInt8) (hF:∀ v,(F v).length ≤ 6 * v.length+23):∀ (its:List PItem) (k:Nat) (tl:List UInt8),(outP its ((linksP k its).map fun q=>F q.2.2) tl).length ≤ (srcP its tl).length+6 * valsP its+25 * countP its
 | [],k,tl=>by simp [outP,srcP,valsP,countP]
 | (c,none) :: its,k,tl=>by
  have:=out_len F hF its (k+c.length) tl
  rw [linksP,outP,srcP,valsP,countP,List.length_append,List.length_append]
  omega
 | (c,some (v,true)) :: its,k,tl=>by
  have:=out_len F hF its (k+c.length+v.length+1) tl
  have h1:=hF (unescS v)
  have h2:=unesc_len v
  rw [linksP,outP,srcP,valsP,countP,List.map_cons]
  simp only [List.headD_cons,List.tail_cons,List.length_append,List.length_cons,if_true]
  omega
 | (c,some (v,false)) :: its,k,tl=>by
  have:=out_len F hF its (k+c.length+v.length+0) tl
  have h1:=hF (unescS v)
  have h2:=unesc_len v
  rw [linksP,outP,srcP,valsP,countP,List.map_cons]
  simp only [List.headD_cons,List.tail_cons,List.length_append,List.length_cons,Bool.false_eq_true,if_false]
  omega
theorem run_vals:∀ (m:Md) (s:List UInt8) (its:List PItem) (tl:List UInt8),Run m s its tl → valsP its+countP its ≤ s.length:=by
 intro m s its tl h
 induction h with
 | stop=>simp [valsP,countP]
 | go m m' s c r tl e its hs _ ih =>
  match m with
  | none =>
   have hs:stepTop s = some (c,e,m',r):=hs
   obtain ⟨rfl,h1,h2,_⟩:=top_local s c r r e m' hs rfl
   rw [valsP,countP,h1,List.length_append]
   omega
  | some (true,n) =>
   have hs:stepSkip n s = some (c,e,m',r):=hs
   unfold stepSkip at hs
   obtain ⟨q,hq,hq2⟩:=Option.map_eq_some_iff.1 hs
   simp only [Prod.mk.injEq] at hq2
   obtain ⟨rfl,rfl,rfl,rfl⟩:=hq2
   have h1:=(findN_some _ _ q.1 q.2 hq).1
   have:=congrArg List.length h1
   rw [List.length_append] at this
   rw [valsP,countP]
   omega
  | some (false,n) =>
   have hs:stepTag n s = some (c,e,m',r):=hs
   match e with
   | none =>
    obtain ⟨h1,h2,_⟩:=tag_none n s c r r m' hs rfl
    rw [valsP,countP,h1,List.length_append]
    omega
   | some (v,b) =>
    obtain ⟨_,h2,⟨_,q,_,_,h1,_⟩ | ⟨_,h1,_⟩⟩:=tag_some n s c r v b m' hs
    all_goals
     have:=List.length_pos_iff.2 h2
     rw [valsP,countP,h1]
     simp only [List.length_append,List.length_cons]
     omega
theorem boundP_len (ps:List BP) (p:BP) (k:Nat) (hp:ps.length ≤ 60) (hk:(markB k).length ≤ 12) (hb:p.body.length ≤ 3000):(boundP ps p k).length ≤ 90000:=by
 unfold boundP
 by_cases h0:linksB p = []
 ·rw [if_pos h0]; omega
 ·rw [if_neg h0]
  have hl:linksB p = saysP p.body:=by
   unfold linksB at h0 ⊢
   split
   ·rfl
   ·rename_i hh
    rw [if_neg hh] at h0
    exact absurd rfl h0
  have e:((linksB p).map (boundV ps p.loc k)).map escS = (linksP 0 (itsP p.body)).map fun q=>(escS (boundV ps p.loc k q.2.2)):=by
   rw [hl]
   unfold saysP
   rw [List.map_map,List.map_map]
   rfl
  rw [e]
  have h1:=out_len (fun v=>escS (boundV ps p.loc k v)) (fun v=>bound_len ps p.loc k v hp hk) (itsP p.body) 0 (tlP p.body)
  have h2:=run_vals _ _ _ _ (itsP_run p.body)
  have h3:=(page_turned p.body (itsP p.body) (tlP p.body) (itsP_run p.body) []).1
  rw [← h3] at h1
  omega
theorem bind_small (b:BB) (h:First b) (k:Nat) (hk:(markB k).length ≤ 12):SmT 2 (bindB b k):=by
 unfold bindB
 have hid:=newId_len b.root k (by have:=h.op.root; have:=h.n; omega) hk
 have hst:(startedB b.head (newId b.root k)).length ≤ 7700:=by
  obtain ⟨f,ps,h1,h2,h3⟩:=kind_said b.head relN rel_ne h.op.rel
  unfold startedB
  rw [h3]
  simp only
  have hf:=h.hd.fs f (List.mem_of_find?_eq_some h1)
  have h4:=xreadK_len f.2 _ h2
  have h5:=xwriteK_len relN ((ps.filter fun p=>!decide (p.1 = stN))++[(stN,angledB (newId b.root k))])
  have h6:sumP ((ps.filter fun p=>!decide (p.1 = stN))++[(stN,angledB (newId b.root k))]) ≤ sumP ps+29:=by
   have e:∀ a c:List PB,sumP (a++c) = sumP a+sumP c:=fun a c=>by simp [sumP]
   rw [e]
   have e1:sumP [(stN,angledB (newId b.root k))] ≤ 29:=by
    have e2:stN.length = 5:=rfl
    have e3:(angledB (newId b.root k)).length = (newId b.root k).length+2:=by simp [angledB]
    rw [sumP_cons,e2,e3]
    simp [sumP]
    omega
   have e4:sumP (ps.filter fun p=>!decide (p.1 = stN)) ≤ sumP ps:=by
    clear h1 h2 h3 h4 h5
    induction ps with
    | nil=>simp
    | cons p ps ih =>
     rw [List.filter_cons]
     split
     ·rw [sumP_cons,sumP_cons]; omega
     ·rw [sumP_cons]; omega
   omega
  have e0:relN.length = 17:=rfl
  simp only at h4
  omega
 refine ⟨⟨?_,?_,?_⟩,by simp,by simpa using h.n,?_⟩
 ·unfold withStart
  rw [setV_len]
  have:=h.hd.len
  omega
 ·intro f hf
  unfold withStart at hf
  rcases setV_mem _ _ f hf with hm | ⟨⟨g,hg,e1⟩,e2⟩
  ·have:=h.hd.fs f hm; omega
  ·have:=h.hd.fs g hg
   rw [e1,e2]
   omega
 ·unfold withStart
  have:=setV_hsz (startedB b.head (newId b.root k)) b.head
  have:=h.hd.sz
  omega
 ·intro q hq
  obtain ⟨i,hi,rfl⟩:=List.mem_mapIdx.1 hq
  obtain ⟨hp,_,hb⟩:=h.ps b.ps[i] (List.getElem_mem hi)
  have hid:=newId_len i k (by have:=h.n; omega) hk
  have h1:((b.ps[i].head).filter fun f=>!decide (smallS f.1 = ciN)).length ≤ b.ps[i].head.length:=List.length_filter_le _ _
  have ea:(angledB (newId i k)).length = (newId i k).length+2:=by simp [angledB]
  have ec:ciB.length = 10:=rfl
  unfold bindP
  refine ⟨⟨?_,?_,?_⟩,?_,by simp,fun p hp=>by cases hp⟩
  ·unfold withId
   rw [List.length_append,List.length_singleton]
   have:=hp.len
   omega
  ·intro f hf
   unfold withId at hf
   rcases List.mem_append.1 hf with hf | hf
   ·have:=hp.fs f (List.mem_filter.1 hf).1; omega
   ·rw [List.mem_singleton.1 hf]
    simp only
    omega
  ·unfold withId
   have e0:hsz ([]:List PB) = 0:=rfl
   have:=hsz_filter (fun f=>!decide (smallS f.1 = ciN)) b.ps[i].head
   have:=hp.sz
   rw [hsz_app,hsz_cons,e0]
   simp only
   omega
  ·have:=boundP_len b.ps b.ps[i] k h.n hk hb
   omega
end Go.Proofs.YtknhacbfddggpaaGreatDoor
namespace Go.Proofs.YtknhacbfddggpaaGreatDoor
open Go.RowKit
def openF:PT → Except Nat BB
 | .mk L _ _ ps=>if (kindB L).1 ≠ relN then .error 6 else if ps = [] then .error 8 else if ps.any manyB = true then .error 13 else
   .ok ⟨L,ps.map (pieceB (placeB zeroA L)),rootB (ps.map (pieceB (placeB zeroA L))) (startB (kindB L).2)⟩
def openE (s:List UInt8):Except Nat BB:=match readTop s with
 | .error c=>.error c
 | .ok p=>openF p
theorem open_ok (p:PT) (b:BB):openF p = .ok b ↔ openB p = some b:=by
 obtain ⟨L,x,m,ps⟩:=p
 rw [openF,openB]
 by_cases h1:(kindB L).1 = relN
 ·cases ps with
  | nil=>simp [h1]
  | cons q ps =>
   cases hm:(q :: ps).any manyB with
   | true =>
    have:(q :: ps).all (fun p=>!manyB p) = false:=by
     rw [Bool.eq_false_iff]
     intro ha
     rw [List.all_eq_true] at ha
     obtain ⟨z,hz,hz2⟩:=List.any_eq_true.1 hm
     have:=ha z hz
     rw [hz2] at this
     cases this
    rw [this]
    simp [h1]
   | false =>
    have:(q :: ps).all (fun p=>!manyB p) = true:=by
     rw [List.all_eq_true]
     intro z hz
     have:=List.any_eq_false.1 hm z hz
     simpa using this
    rw [this]
    simp [h1]
 ·simp [h1]
def HdT:Nat → PT → Prop
 | 0,_=>False
 | d+1,.mk L b _ ps=>L.length ≤ 20000∧(∀ f ∈ L,f.1.length ≤ 20000∧f.2.length ≤ 20000)∧b.length ≤ 20000∧ps.length ≤ 40∧∀ p ∈ ps,HdT d p
theorem readU_hd:∀ (d n:Nat) (s:List UInt8) (q:PT × Nat),readU d n s = .ok q → n ≤ 40 → s.length ≤ 20000 → HdT d q.1
 | 0,n,s,q,h,_,_=>by cases h
 | d+1,n,s,q,h,hn,hs=>by
  have hcnt:=readU_cnt (d+1) n s q h hn
  unfold readU at h
  split at h
  ·cases h
  ·cases h1:headR s with
   | error c=>rw [h1] at h; cases h
   | ok hh =>
    rw [h1] at h
    simp only at h
    obtain ⟨l1,l2,l3⟩:=headR_len s hh h1
    have hhd:hh.1.length ≤ 20000∧(∀ f ∈ hh.1,f.1.length ≤ 20000∧f.2.length ≤ 20000):=⟨by omega,fun f hf=>by have:=l2 f hf; omega⟩
    cases h2:maniesS hh.1 with
    | error c=>rw [h2] at h; cases h
    | ok o =>
     rw [h2] at h
     cases o with
     | none =>
      simp only at h
      cases h3:decodeU hh.1 hh.2 with
      | error c=>rw [h3] at h; cases h
      | ok b =>
       rw [h3] at h
       cases h
       have:=decodeU_len _ _ _ h3
       exact ⟨hhd.1,hhd.2,by omega,by simp,fun p hp=>by cases hp⟩
     | some b =>
      simp only at h
      cases h3:betweenS b hh.2 with
      | none=>rw [h3] at h; cases h
      | some xs =>
       rw [h3] at h
       simp only at h
       have hx:=between_len _ _ _ h3
       cases h4:allG (readU d) xs (n+1) with
       | error c=>rw [h4] at h; cases h
       | ok r =>
        rw [h4] at h
        cases h
        have hc:=all_count (readU_more d) xs (n+1) r h4
        have hall:∀ (xs:List (List UInt8)) (n:Nat) (r:List PT × Nat),(∀ x ∈ xs,x.length ≤ 20000) → allG (readU d) xs n = .ok r → r.2 ≤ 40 → n ≤ 40 → ∀ p ∈ r.1,HdT d p:=by
         intro xs
         induction xs with
         | nil=>intro n r _ h _ _ p hp; cases h; cases hp
         | cons x xs ihx =>
          intro n r hl h hr hn p hp
          obtain ⟨y,k,zs,h1,h2,h3⟩:=allG_ok _ _ _ _ _ _ (show allG (readU d) (x :: xs) n = .ok (r.1,r.2) from h)
          have a:=readU_cnt d n x (y,k) h1 hn
          rw [h3] at hp
          rcases List.mem_cons.1 hp with rfl | hp
          ·exact readU_hd d n x (p,k) h1 hn (hl x (by simp))
          ·exact ihx k (zs,r.2) (fun z hz=>hl z (by simp [hz])) h2 hr a p hp
        simp only at hcnt
        exact ⟨hhd.1,hhd.2,by simp,by omega,hall xs (n+1) r (fun x hx'=>by have:=hx x hx'; omega) h4 hcnt (by omega)⟩
theorem top_hd (s:List UInt8) (q:PT) (h:readTop s = .ok q):HdT 4 q:=by
 unfold readTop at h
 split at h
 ·cases h
 ·cases hr:readU 4 0 s with
  | error c=>rw [hr] at h; cases h
  | ok r =>
   rw [hr] at h
   cases h
   exact readU_hd 4 0 s r hr (by omega) (by omega)
theorem bound_opens (b:BB) (h:First b) (k:Nat) (hk:∀ t ∈ textsB b,Apart (markB k) t) (t:List UInt8) (hw:topW (writeC 4 0 (bindB b k)) = .ok t) :
  ∃ c,openE t = .ok c∧t.length ≤ 20000∧c.root = b.root∧c.ps.length = b.ps.length∧∀ i (h:i < b.ps.length) (h':i < c.ps.length),c.ps[i].loc = b.ps[i].loc∧(leadsB b.ps b.ps[i] = [] → c.ps[i].body = b.ps[i].body)∧likesL (leadsB b.ps b.ps[i]) (leadsB c.ps c.ps[i]):=by
 obtain ⟨r,h1,h2,h3⟩:=back_some _ t hw
 obtain ⟨bd,hows,hbd,rfl⟩:=back_form b k r h3
 obtain ⟨c,hc,c1,c2,c3⟩:=bundle_back b h.op k hk bd hbd hows
 refine ⟨c,?_,h2,c1,c2,c3⟩
 unfold openE
 rw [h1]
 exact (open_ok _ _).2 hc
end Go.Proofs.YtknhacbfddggpaaGreatDoor
