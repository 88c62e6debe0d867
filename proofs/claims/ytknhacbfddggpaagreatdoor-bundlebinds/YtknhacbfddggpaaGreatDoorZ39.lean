import Derived.Test.YtknhacbfddggpaaGreatDoorZ38
import Derived.Test.YtknhacbfddggpaaGreatDoorZ34
import Derived.Test.YtknhacbfddggpaaGreatDoorZ37
namespace Go.Proofs.YtknhacbfddggpaaGreatDoor
open Go.RowKit Go.Proofs.Px
theorem keepFr {W w':World} {g:Nat} {v0 v1 v2 v3 v4 v5 v6 v7:Value} (h:Blk W g v0 v1 v2 v3 v4 v5 v6 v7) (hb:Below W.heap.size W w'):w'.cell? ⟨g,6,none⟩ = some v6∧w'.cell? ⟨g,7,none⟩ = some v7∧Below W.heap.size W w':=by
 have:=h.below hb
 exact ⟨this.c6,this.c7,hb⟩
theorem cid_small (t:ByteArray) (f:Bool) (a:ByteArray) (h1:t.size ≤ 1000000) (h2:a.size ≤ 1000000):AV.Small ⟨⟨#[99,105,100]⟩,false,⟨#[]⟩,t,false,⟨#[]⟩,f,a⟩ 1000000:=⟨(by decide:(⟨#[99,105,100]⟩:ByteArray).size ≤ 1000000),Nat.zero_le _,h1,Nat.zero_le _,h2⟩
theorem ldField (S:ByteArray) (z:Int) (w:World):Sem.run Tryz.prog (Instr.field 46 (Value.agg #[Value.string S,Value.int IntKind.i64 z]) 1) w = Result.ok (Value.int IntKind.i64 z) w:=by kernel_rfl
theorem leadB_lt {ps:List BP} {loc:AB} {v:List UInt8} {n:Nat} (h:(leadB ps loc v).2 = some n):n < ps.length:=by
 unfold leadB at h
 cases hr:readA v with
 | none=>rw [hr] at h; cases h
 | some x=>rw [hr] at h; exact findB_lt _ _ _ h
theorem boundV_none {ps:List BP} {loc:AB} {k:Nat} {v:List UInt8} (h:(leadB ps loc v).2 = none):boundV ps loc k v = v:=by
 unfold boundV
 rw [h]
theorem boundV_some {ps:List BP} {loc:AB} {k n:Nat} {v:List UInt8} (h:(leadB ps loc v).2 = some n):boundV ps loc k v = writeA (cidA n k ((readA v).getD zeroA).hasF ((readA v).getD zeroA).frag):=by
 unfold boundV
 rw [h]
set_option maxHeartbeats 2000000 in
set_option maxRecDepth 100000 in
theorem boundLink_any {w:World} {b:Nat} {hv:Value} {hl:List Fl} {A:Option Addr} {cap:Nat} {ps:List XP} {root:Nat} (h:BN w b hv hl A cap ps root) (p:XP) (hp:p.loc.Small 270000) (s m:ByteArray) (hs:s.size ≤ 100000) (k:Nat) (hmk:m.data.toList = markB k) (hms:m.size ≤ 1000) (hm:Max w) (ht:Tab w) :
  Calls Tryz.prog 57 #[.pointer (some ⟨b,0,none⟩),p.val,.string s,.string m] w fun e w'=>∃ S,e = .returned (.string S)∧S.data.toList = boundV (ps.map XP.bp) p.loc.ab k s.data.toList∧S.size ≤ 10000000∧Below w.heap.size w w':=by
 have hw0:=hm.1
 have hbA:Below w.heap.size w (w.alloc (xobj p)):=(Below.refl _ _).alloc (Nat.le_refl _) _
 have hplen:=h.xl.len
 have HM:=Box.mk hm
 have HM1:=Box.mk (hm.below hbA hw0)
 have HT:=Box.mk ht
 have HL:=Box.mk (blead_any (h.below hbA) p hp s hs HM1.out)
 have HMK:=Box.mk hmk
 obtain ⟨R,HR⟩:∃ R,Box (boundV (ps.map XP.bp) p.loc.ab k s.data.toList = R):=⟨_,⟨rfl⟩⟩
 rw [HR.out]
 obtain ⟨Ld,HLd⟩:∃ Ld,Box (leadB (ps.map XP.bp) p.loc.ab s.data.toList = Ld):=⟨_,⟨rfl⟩⟩
 rw [HLd.out] at HL
 have HN:Box (Ld.2 = none → R = s.data.toList):=⟨fun h0=>by rw [← HR.out]; exact boundV_none (by rw [HLd.out]; exact h0)⟩
 have HS:Box (∀ n,Ld.2 = some n → n < ps.length∧R = writeA (cidA n k ((readA s.data.toList).getD zeroA).hasF ((readA s.data.toList).getD zeroA).frag)):=⟨fun n h0=>⟨by have:=leadB_lt (n:=n) (by rw [HLd.out]; exact h0); rwa [List.length_map] at this,by rw [← HR.out]; exact boundV_some (by rw [HLd.out]; exact h0)⟩⟩
 obtain ⟨hd,fs,bd,id,⟨b0,b1,b2,b3,b4,b5,b6,b7⟩⟩:=p
 clear h hp hm ht hmk HR HLd
 unfold xobj at hbA HL HM1
 simp only at hbA HL HM1
 go_enter Tryz.func57,Tryz.ntmps57
 go_wp2_with fail
 refine HL.out.mono ?_
 rintro e w1 ⟨S1,rfl,hS1,hb1⟩
 have hb01:=hbA.trans (hb1.mono hbA.size)
 clear HL hS1
 obtain ⟨x1,x2⟩:=Ld
 cases x2 with
 | none =>
  have HE:=Box.mk (HN.out rfl)
  clear HN HS
  have hfd:=ldField S1 (-1) w1
  simp only [ldVal,idxV]
  go_wp2
  go_ret
  exact ⟨_,rfl,HE.out.symm,by omega,hb01⟩
 | some n =>
  obtain ⟨hnl,hE⟩:=HS.out n rfl
  have HE:=Box.mk hE
  clear HN HS hE
  have k0:¬ (n:Int) < 0:=by omega
  have HM2:=Box.mk (HM.out.below hb01 hw0)
  have hfd:=ldField S1 (n:Int) w1
  simp only [ldVal,idxV]
  go_wp2_with fail
  refine (aread_is s _ (by omega) HM2.out).mono ?_
  rintro e w2 ⟨rfl,hs2,hb2⟩
  have HZ:=Box.mk (readV_ab s.data.toList)
  generalize readV s.data.toList = a at hs2 HZ ⊢
  obtain ⟨a0,a1,a2,a3,a4,a5,a6,a7⟩:=a
  have hb02:=hb01.trans (hb2.mono hb01.size)
  have hb03:Below w.heap.size w (w2.alloc (obj8 a0 a1 a2 a3 a4 a5 a6 a7)):=hb02.alloc hb02.size _
  have hg3:=heap_newN w2 (obj8 a0 a1 a2 a3 a4 a5 a6 a7)
  have hfr:a7.size ≤ 100000:=Nat.le_trans hs2.fr hs
  have HF:Box (((readA s.data.toList).getD zeroA).hasF = a6∧((readA s.data.toList).getD zeroA).frag = a7.data.toList):=⟨by rw [← HZ.out]; exact ⟨rfl,rfl⟩⟩
  have HT3:=Box.mk (HT.out.below hb03 HT.out.lt)
  obtain ⟨er,her⟩:∃ er,errV s.data.toList = er:=⟨_,rfl⟩
  rw [her]
  clear HZ her hs2 HM2 HM1 HM HT hb1 hb2 hbA
  go_wp2_with fail
  generalize w2.alloc (.cells #[.string a0,.bool a1,.string a2,.string a3,.bool a4,.string a5,.bool a6,.string a7] 36) = W at hg3 hb03 HT3 ⊢
  have HK:=Box.mk (blk_of hg3)
  clear hg3 hfd
  go_region_held3 (fun w'=>w'.cell? ⟨w2.heap.size,6,none⟩ = some (.bool a6)∧w'.cell? ⟨w2.heap.size,7,none⟩ = some (.string a7)∧Below W.heap.size W w')
   ((go_split_ands; exact keepFr HK.out (by first | exact (Below.refl _ _).drew | assumption | exact (Below.refl _ _).drew.trans hb5 | exact (Below.refl _ _).drew.trans (hb5.trans (hb6.mono hb5.size)))))
   (first
    | (go_at_call 23; refine (newID_any n m _ (by omega) (by omega) (HT3.out.below ((Below.refl W.heap.size W).drew) HT3.out.lt)).mono ?_; rintro e w5 ⟨t,rfl,ht5,hts5,hb5⟩; have HT5:=Box.mk ht5; clear ht5)
    | (go_at_call 67; refine (awrite_any ⟨⟨#[99,105,100]⟩,false,⟨#[]⟩,t,false,⟨#[]⟩,a6,a7⟩ _ (cid_small t a6 a7 (by omega) (by omega))).mono ?_; rintro e w6 ⟨rfl,hb6⟩))
  have hb06:Below w.heap.size w w6:=hb03.trans (((Below.refl W.heap.size W).drew.trans (hb5.trans (hb6.mono hb5.size))).mono hb03.size)
  have hwz:=writeB_size _ 1000000 (cid_small t a6 a7 (by omega) (by omega))
  have HWz:=Box.mk hwz
  clear hwz
  have HRz:Box ((writeB ⟨⟨#[99,105,100]⟩,false,⟨#[]⟩,t,false,⟨#[]⟩,a6,a7⟩).data.toList = R):=⟨by
   rw [writeB_list,HE.out,HF.out.1,HF.out.2]
   unfold cidA newId AV.ab
   rw [← HMK.out,← HT5.out]
   rfl⟩
  go_split_ands
  clear HE HF HMK HT5 HK HT3
  go_wp2
  go_ret
  exact ⟨_,rfl,HRz.out,Nat.le_trans HWz.out (by decide),hb06⟩
end Go.Proofs.YtknhacbfddggpaaGreatDoor
namespace Go.Proofs.YtknhacbfddggpaaGreatDoor
open Go.RowKit Go.Proofs.Px
theorem tls_append (xs ys:List ByteArray):tls (xs++ys) = tls xs++tls ys:=by simp [tls]
theorem tls_length (xs:List ByteArray):(tls xs).length = xs.length:=by simp [tls]
set_option maxHeartbeats 2000000 in
set_option maxRecDepth 100000 in
theorem boundBody_any {w:World} {b:Nat} {hv:Value} {hl:List Fl} {A:Option Addr} {cap:Nat} {ps:List XP} {root:Nat} (h:BN w b hv hl A cap ps root) (p:XP) (hp:XS w p) (m:ByteArray) (k:Nat) (hmk:m.data.toList = markB k) (hms:m.size ≤ 1000) (hG:PGB w w.heap.size) (hm:Max w) (ht:Tab w) (hout:(boundP (ps.map XP.bp) p.bp k).length ≤ 1000000000) :
  Calls Tryz.prog 24 #[.pointer (some ⟨b,0,none⟩),p.val,.string m] w fun e w'=>∃ S,e = .returned (.tuple #[.string S,.nilIface])∧S.data.toList = boundP (ps.map XP.bp) p.bp k∧Below w.heap.size w w':=by
 have hw0:=hm.1
 have hbA:Below w.heap.size w (w.alloc (xobj p)):=(Below.refl _ _).alloc (Nat.le_refl _) _
 have hgA:=heap_newN w (xobj p)
 have HX:Box (∀ w':World,w'.heap[w.heap.size]? = some (xobj p) → XC w' w.heap.size 0 p):=⟨fun w' h'=>xc_of h'⟩
 have HGA:=Box.mk ((hG.below hbA).up hbA.size)
 have HMA:=Box.mk (hm.below hbA hw0)
 have HB:=Box.mk h
 have HP:=Box.mk hp
 have HM:=Box.mk hm
 have HT:=Box.mk ht
 have HG:=Box.mk hG
 have HMK:=Box.mk hmk
 have hbs:=hp.bs
 have HLk:=Box.mk (blinks_any p _ (hp.below hbA) HGA.out HMA.out)
 have HBL:Box (∀ (w1:World) (s:ByteArray),Below w.heap.size w w1 → s.size ≤ 100000 → Calls Tryz.prog 57 #[.pointer (some ⟨b,0,none⟩),p.val,.string s,.string m] w1 fun e w'=>∃ S,e = .returned (.string S)∧S.data.toList = boundV (ps.map XP.bp) p.loc.ab k s.data.toList∧S.size ≤ 10000000∧Below w1.heap.size w1 w'):=⟨fun w1 s hb1 hs=>boundLink_any (h.below hb1) p hp.ad s m hs k hmk hms (hm.below hb1 hw0) (ht.below hb1 ht.lt)⟩
 have HSz:Box (∀ v ∈ linksB p.bp,v.length ≤ 100000):=⟨fun v hv=>by
  unfold linksB at hv
  split at hv
  ·have h1:=says_len _ v hv
   have h2:p.bp.body.length = p.bd.size:=size_list p.bd
   omega
  ·cases hv⟩
 have HIt:Box (linksB p.bp ≠ [] → (linksB p.bp).length = countP (itsP p.bd.data.toList)):=⟨fun hne=>by
  unfold linksB at hne ⊢
  split
  ·unfold saysP
   rw [List.length_map,links_len]
   rfl
  ·rename_i hc
   rw [if_neg hc] at hne
   exact absurd rfl hne⟩
 obtain ⟨R,HR⟩:∃ R,Box (boundP (ps.map XP.bp) p.bp k = R):=⟨_,⟨rfl⟩⟩
 rw [HR.out] at hout ⊢
 have HR0:Box (linksB p.bp = [] → R = p.bd.data.toList):=⟨fun h0=>by rw [← HR.out]; unfold boundP; rw [if_pos h0]; rfl⟩
 have HR1:Box (linksB p.bp ≠ [] → R = outP (itsP p.bd.data.toList) (((linksB p.bp).map (boundV (ps.map XP.bp) p.loc.ab k)).map escS) (tlP p.bd.data.toList)):=⟨fun h0=>by rw [← HR.out]; unfold boundP; rw [if_neg h0]; rfl⟩
 generalize linksB p.bp = LL at HLk HSz HIt HR0 HR1
 obtain ⟨V,HV⟩:∃ V,Box (boundV (ps.map XP.bp) p.loc.ab k = V):=⟨_,⟨rfl⟩⟩
 rw [HV.out] at HBL HR1
 obtain ⟨hd,fs,bd,id,⟨b0,b1,b2,b3,b4,b5,b6,b7⟩⟩:=p
 clear h hp hm ht hmk hG HR HV
 unfold xobj at hbA hgA HX HGA HMA HLk
 simp only at hbA hgA HX HGA HMA HLk hbs
 go_enter Tryz.func24,Tryz.ntmps24
 go_wp2_with fail
 refine HLk.out.mono ?_
 rintro e w1 ⟨v1,rfl,⟨ls,hO1,hls⟩,hb1⟩
 have hb01:=hbA.trans (hb1.mono hbA.size)
 have hg1:=heap_in hb1 hgA
 obtain ⟨AL,capL,hv1,hcL⟩:=hO1.len
 subst hv1
 have HO1:=Box.mk hO1
 have HLS:=Box.mk hls
 have hlw:w.heap.size < w1.heap.size:=(Array.getElem?_eq_some_iff.1 hg1).1
 clear HLk hO1 hls hgA hb1 hbA HGA HMA
 by_cases h0:ls.length = 0
 ·have HE:=Box.mk (HR0.out (by rw [← HLS.out,List.eq_nil_of_length_eq_zero h0]; rfl))
  obtain ⟨-,d1,-⟩:=HX.out _ hg1
  simp only [Nat.zero_add] at d1
  have hz:((ls.length:Int) == 0) = true:=by rw [h0]; rfl
  clear HR0 HR1 HIt HSz HBL HLS HX
  go_wp2
  go_ret2
  exact ⟨_,rfl,HE.out.symm,hb01⟩
 ·have hLn:LL ≠ []:=fun e=>h0 (by have:=congrArg List.length HLS.out; rw [e,List.length_map] at this; exact this)
  have HE:=Box.mk (HR1.out hLn)
  have hct:=HIt.out hLn
  have hLl:LL.length = ls.length:=by rw [← HLS.out,List.length_map]
  have HCT:Box (ls.length = countP (itsP bd.data.toList)):=⟨by rw [← hct,hLl]⟩
  have hll:ls.length ≤ 1000000:=by
   have h1:=run_count none _ _ _ (itsP_run bd.data.toList)
   have h2:bd.data.toList.length = bd.size:=size_list bd
   have h3:=HCT.out
   omega
  have HSl:Box (∀ j (hj:j < ls.length),ls[j].2.2.size ≤ 100000):=⟨fun j hj=>by
   have:=HSz.out ls[j].2.2.data.toList (by rw [← HLS.out]; exact List.mem_map_of_mem (f:=fun x:Lk=>x.2.2.data.toList) (List.getElem_mem hj))
   rwa [size_list] at this⟩
  have hne:((ls.length:Int) == 0) = false:=beq_eq_false_iff_ne.2 (by omega)
  rcases HO1.out.shape with ⟨_,hn⟩ | ⟨g,cg,hg,_,hg2,_⟩
  ·rw [hn] at h0; exact absurd rfl h0
  simp only [Value.slice.injEq] at hg
  obtain ⟨rfl,_,rfl⟩:=hg
  have hgl:g < w1.heap.size:=hg2
  clear HR0 HR1 HIt HSz hct hLl hLn hg2 h0
  go_wp2
  go_loopw [9,21] (fun x i wr=>∃ (j:Nat) (xs:List ByteArray),j ≤ ls.length∧i = .int .i64 j∧xs.length ≤ j∧Box (OwnS wr w1.heap.size x xs)∧Box (tls xs = (ls.take j).map fun l=>V l.2.2.data.toList)∧Box (∀ y ∈ xs,y.size ≤ 10000000)∧Below w1.heap.size w1 wr) (fun _ i _=>ls.length - (intOf i).toNat)
  case atStart=>exact ⟨0,[],Nat.zero_le _,rfl,Nat.le_refl _,⟨OwnS.nil _ _⟩,⟨rfl⟩,⟨fun y hy=>by cases hy⟩,Below.refl _ _⟩
  case round =>
   obtain ⟨j,xs,hj,rfl,hxj,HO,HV,HY,hb⟩:=hrel
   have hsz:=hb.size
   by_cases hlt:j < ls.length
   ·obtain ⟨e0,e1,e2⟩:=(HO1.out.below hb (Nat.le_refl _)).cell j hlt
    have hs2:=HSl.out j hlt
    have HV2:Box ((ls.take (j+1)).map (fun l=>V l.2.2.data.toList) = (ls.take j).map (fun l=>V l.2.2.data.toList)++[V ls[j].2.2.data.toList]):=⟨by rw [List.take_add_one,List.getElem?_eq_getElem hlt,List.map_append]; rfl⟩
    generalize ls[j].1 = q0 at e0
    generalize ls[j].2.1 = q1 at e1
    generalize ls[j].2.2 = q2 at e2 hs2 HV2
    have hbB:Below w1.heap.size w1 (wr.alloc (.cells #[.int .i64 (q0:Int),.int .i64 (q1:Int),.string q2] 80)):=hb.alloc hsz _
    have hbBw:=hb01.trans (hbB.mono hb01.size)
    obtain ⟨d0,d1,d2,d3,d4,d5,d6,d7,d8,d9,da⟩:=HX.out _ (heap_in hbB hg1)
    simp only [Nat.zero_add] at d0 d1 d2 d3 d4 d5 d6 d7 d8 d9 da
    have HC:=Box.mk (HBL.out _ q2 hbBw hs2)
    have k7:(j:Int) < (ls.length:Int):=by omega
    have k8:(0:Int) ≤ (j:Int):=by omega
    go_wp2_with fail
    refine HC.out.mono ?_
    rintro e w3 ⟨S,rfl,hS,hSz,hb3⟩
    have hb13:=hbB.trans (hb3.mono hbB.size)
    have hO3:OwnS w3 w1.heap.size u9 xs:=OwnS.below (World.ownsRow.alloc HO.out _) hb3 (Nat.le_refl _)
    have HS:=Box.mk hS
    have hl:xs.length+1 ≤ 10000000:=by omega
    have hsz3:=hb13.size
    clear HC hS d0 d1 d2 d3 d4 d5 d6 d7 d8 d9 da e0 e1 e2
    go_wp2_with (at_builtin; refine wp_appTs _ w1 rfl (.tmp 25) (.tmp 32) rfl w1.heap.size _ xs rfl (World.ownsRow.alloc hO3 _) _ _ S rfl (by simp) hl (by simp; omega) (hb13.alloc hsz3 _) ?_; intro v4 w4 hO4 hb4)
    go_roundw
    case rel =>
     refine ⟨j+1,xs++[S],by omega,by go_num,by rw [List.length_append]; simp; omega,⟨hO4⟩,⟨by rw [tls_append,HV.out,HV2.out,← HS.out]; rfl⟩,⟨fun y hy=>?_⟩,hb4⟩
     rcases List.mem_append.1 hy with hy | hy
     ·exact HY.out y hy
     ·rw [List.mem_singleton.1 hy]; exact hSz
    case measure=>simp [intOf]; omega
   ·have HV3:Box (tls xs = LL.map V):=⟨by rw [HV.out,List.take_of_length_le (by omega),← HLS.out,List.map_map]; rfl⟩
    have hxl:xs.length = ls.length:=by rw [← tls_length,HV3.out,List.length_map,← HLS.out,List.length_map]
    obtain ⟨A9,c9,hx9⟩:∃ A9 c9,u9 = .slice A9 xs.length c9:=by
     rcases HO.out.shape with ⟨h1,h2⟩ | ⟨g9,c9,h1,_⟩
     ·exact ⟨none,0,by rw [h1,h2]; rfl⟩
     ·exact ⟨_,_,h1⟩
    subst hx9
    have hbw:=hb01.trans (hb.mono hb01.size)
    obtain ⟨-,d1,-⟩:=HX.out _ (heap_in hb hg1)
    simp only [Nat.zero_add] at d1
    have HGr:=Box.mk ((HG.out.below hbw).up hbw.size)
    have HCx:Box (xs.length = countP (itsP bd.data.toList)):=⟨hxl.trans HCT.out⟩
    have HOu:Box (outP (itsP bd.data.toList) ((tls xs).map escS) (tlP bd.data.toList) = R):=⟨by rw [HV3.out,HE.out]⟩
    clear hxl HE HV HV3 HBL HSl HLS
    go_wp2_with fail
    refine (preplace_any bd A9 c9 xs _ HGr.out (by omega) _ _ (itsP_run _) (OwnS.tl HO.out) (fun y hy=>by have:=HY.out y hy; omega) HCx.out (by rw [HOu.out]; exact hout)).mono ?_
    rw [HOu.out]
    rintro e w5 ⟨S,rfl,hS,hb5⟩
    have HS:=Box.mk hS
    clear hS HCx HOu
    go_wp2
    go_ret2
    exact ⟨_,rfl,HS.out,hbw.trans (hb5.mono hbw.size)⟩
end Go.Proofs.YtknhacbfddggpaaGreatDoor
