import Derived.Test.YtknhacbfddggpaaGreatDoorZ43
import Derived.Test.YtknhacbfddggpaaGreatDoorZ38
import Derived.Test.YtknhacbfddggpaaGreatDoorZ42
import Derived.Deep.QuietTactic
import Derived.BigQuiet
namespace Go.Proofs.YtknhacbfddggpaaGreatDoor
open Go.RowKit Go.Proofs.Px
def smpS:ByteArray:=⟨smpL.toArray⟩
theorem bound_is:∃ bb,openE smpL = .ok bb∧(∃ (h:0 < bb.ps.length),leadsB bb.ps bb.ps[0] = [(urlL,some 1)])∧standsM (textsB bb) 0 = false∧∃ t,topW (writeC 4 0 (bindB bb 0)) = .ok t∧Lib.contains t needL = true:=by
 have h:=bound_yes
 unfold boundB at h
 cases ho:openE smpL with
 | error c=>rw [ho] at h; cases h
 | ok bb =>
  rw [ho] at h
  simp only at h
  obtain ⟨hd,ps,rt⟩:=bb
  cases ps with
  | nil=>cases h
  | cons p ps =>
   simp only [Bool.and_eq_true,decide_eq_true_eq,Bool.not_eq_true'] at h
   obtain ⟨⟨h1,h2⟩,h3⟩:=h
   refine ⟨_,rfl,⟨by simp,h1⟩,h2,?_⟩
   cases ht:topW (writeC 4 0 (bindB ⟨hd,p :: ps,rt⟩ 0)) with
   | error c=>rw [ht] at h3; cases h3
   | ok t=>rw [ht] at h3; exact ⟨t,rfl,h3⟩
theorem first_open (s:List UInt8) (bb:BB) (h:openE s = .ok bb) (hs:s.length ≤ 2500):First bb:=by
 unfold openE at h
 cases hr:readTop s with
 | error c=>rw [hr] at h; cases h
 | ok p =>
  rw [hr] at h
  exact first_of s p bb hr hs ((open_ok p bb).1 h)
theorem topW_len (O:Except Nat (List UInt8 × Nat)) (t:List UInt8) (h:topW O = .ok t):t.length ≤ 20000:=by
 unfold topW at h
 cases O with
 | error c=>cases h
 | ok q =>
  simp only at h
  split at h
  ·cases h
  ·cases h; omega
theorem one_lead (L:List Ld) (u:List UInt8) (n:Nat) (h:L.map ld2 = [(u,some n)]):∃ l:ByteArray,L = [(l,some n)]∧l.data.toList = u:=by
 cases L with
 | nil=>cases h
 | cons a L =>
  cases L with
  | nil =>
   obtain ⟨l,o⟩:=a
   simp only [List.map_cons,List.map_nil,ld2,List.cons.injEq,Prod.mk.injEq,and_true] at h
   obtain ⟨h1,rfl⟩:=h
   exact ⟨l,rfl,h1⟩
  | cons c L=>simp at h
set_option maxHeartbeats 1000000 in
set_option maxRecDepth 100000 in
theorem bound_any (w:World) (hG:Glob w) (hP:PGB w w.heap.size) (hT:Tab w) :
  Calls Tryz.prog 4 #[] w fun e w'=>e = .returned (.bool true)∧Below w.heap.size w w':=by
 obtain ⟨bb,ho,⟨hl0,hld⟩,hst,t,htw,hct⟩:=bound_is
 have HOp:=Box.mk (bopen_any smpS w (by decide +kernel) hG)
 have hsm:smpS.data.toList = smpL:=rfl
 rw [hsm,ho] at HOp
 have HFi:=Box.mk (first_open smpL bb ho (by decide +kernel))
 have HLd:Box (leadsB bb.ps bb.ps[0] = [(urlL,some 1)]):=⟨hld⟩
 have HSt:=Box.mk hst
 have HTw:=Box.mk htw
 have HCt:=Box.mk hct
 have HG:=Box.mk hG
 have hgb:=hG.gb
 have HP:=Box.mk hP
 have HT:=Box.mk hT
 have htl:=hT.lt
 clear ho hld hst htw hct hG hP hT hsm
 go_enter Tryz.func4,Tryz.ntmps4
 unfold smpS smpL at HOp
 go_wp2_with fail
 refine HOp.out.mono ?_
 rintro e w1 ⟨⟨b,hv,hl,A,cap,ps,root,rfl,hB,hbb⟩,hb1⟩
 have hpl:0 < ps.length:=by rw [hbb,List.length_map] at hl0; exact hl0
 have HB:=Box.mk hB
 have HBB:=Box.mk hbb
 have hbp:bb.ps = ps.map XP.bp:=by rw [hbb]
 have HLd2:Box (leadsB (ps.map XP.bp) ps[0].bp = [(urlL,some 1)]):=⟨by
  have h1:=HLd.out
  have h2:bb.ps[0] = ps[0].bp:=by simp [hbp]
  rw [h2,hbp] at h1
  exact h1⟩
 have HLs:=Box.mk (bleads_any hB 0 hpl ((HP.out.below hb1).up hb1.size) (HG.out.mx.below hb1 hgb.g0))
 clear HOp hB hbb hbp HLd
 go_wp2_with fail
 refine HLs.out.mono ?_
 rintro e w2 ⟨v,L,rfl,hOD,hLd,hb2⟩
 rw [HLd2.out] at hLd
 obtain ⟨l,rfl,hl1⟩:=one_lead L _ _ hLd
 rcases hOD.shape with ⟨_,hx⟩ | ⟨g,cg,rfl,_⟩
 ·cases hx
 obtain ⟨c0,c1⟩:=hOD.cell 0 (by simp)
 simp only [List.getElem_cons_zero,Nat.zero_mul,Nat.zero_add] at c0 c1
 replace c1:w2.cell? ⟨g,1,none⟩ = some (.int .i64 1):=c1
 have hlu:l.toList = [104,116,116,112,58,47,47,97,47,99,35,100]:=by rw [ByteArray.toList_eq,hl1]; rfl
 have hb02:=hb1.trans (hb2.mono hb1.size)
 have HBi:=Box.mk (bbind_any (HB.out.below hb2) bb HBB.out HFi.out (HG.out.below hb02 hgb) ((HP.out.below hb02).up hb02.size) (HT.out.below hb02 htl))
 clear HLs hLd hOD hl1 HLd2
 go_wp2_with fail
 refine HBi.out.mono ?_
 rintro e w3 ⟨k,hW,-,hmin,hb3⟩
 have hk0:k = 0:=by
  have:=hmin 0 HSt.out
  omega
 subst hk0
 rw [HTw.out] at hW
 obtain ⟨T,rfl,hTt⟩:=(hW:∃ T:ByteArray,e = .returned (.tuple #[.string T,.nilIface])∧T.data.toList = t)
 have hb03:=hb02.trans (hb3.mono hb02.size)
 obtain ⟨_,mm,hmm⟩:=HG.out.mx.below hb03 hgb.g0
 have HK:=Box.mk (Tryz.strings_Contains T ⟨#[60,97,32,104,114,101,102,61,34,99,105,100,58,112,97,114,116,49,64,98,48,35,100,34,62]⟩ mm w3 (by
  have:=topW_len _ _ HTw.out
  rw [← hTt,size_list] at this
  omega) hmm)
 have HR:Box (Lib.contains T.data.toList (⟨#[60,97,32,104,114,101,102,61,34,99,105,100,58,112,97,114,116,49,64,98,48,35,100,34,62]⟩:ByteArray).data.toList = true):=⟨by rw [hTt]; exact HCt.out⟩
 rw [HR.out] at HK
 clear hmm HBi hTt hmin HR c0 c1
 go_wp2_with fail
 refine HK.out.mono ?_
 rintro e w4 ⟨rfl,hw4⟩
 obtain rfl:=hw4.symm
 clear HK
 go_wp2
 go_ret
 exact ⟨rfl,hb03⟩
end Go.Proofs.YtknhacbfddggpaaGreatDoor
namespace Go.Proofs.YtknhacbfddggpaaGreatDoor
open Go.RowKit Go.Proofs.Px
structure SameB (ps qs:List XP):Prop where
 len:qs.length = ps.length
 loc:∀ i (h:i < ps.length) (h':i < qs.length),qs[i].loc = ps[i].loc
 body:∀ i (h:i < ps.length) (h':i < qs.length),leadsB (ps.map XP.bp) ps[i].bp = [] → qs[i].bd = ps[i].bd
 leads:∀ i (h:i < ps.length) (h':i < qs.length),likesL (leadsB (ps.map XP.bp) ps[i].bp) (leadsB (qs.map XP.bp) qs[i].bp)
theorem same_of (ps qs:List XP) (h1:(qs.map XP.bp).length = (ps.map XP.bp).length) (h2:∀ i (h:i < (ps.map XP.bp).length) (h':i < (qs.map XP.bp).length),((qs.map XP.bp)[i]).loc = ((ps.map XP.bp)[i]).loc∧(leadsB (ps.map XP.bp) (ps.map XP.bp)[i] = [] → ((qs.map XP.bp)[i]).body = ((ps.map XP.bp)[i]).body)∧likesL (leadsB (ps.map XP.bp) (ps.map XP.bp)[i]) (leadsB (qs.map XP.bp) (qs.map XP.bp)[i])):SameB ps qs:=by
 have e1:∀ (l:List XP) i (h:i < l.length),(l.map XP.bp)[i]'(by rw [List.length_map]; exact h) = l[i].bp:=fun l i h=>List.getElem_map _
 refine ⟨by simpa using h1,fun i h h'=>?_,fun i h h' hl=>?_,fun i h h'=>?_⟩
 ·obtain ⟨a,_⟩:=h2 i (by rw [List.length_map]; exact h) (by rw [List.length_map]; exact h')
  rw [e1 ps i h,e1 qs i h'] at a
  exact ab_inj a
 ·obtain ⟨_,a,_⟩:=h2 i (by rw [List.length_map]; exact h) (by rw [List.length_map]; exact h')
  rw [e1 ps i h,e1 qs i h'] at a
  exact bytes_eq (a hl)
 ·obtain ⟨_,_,a⟩:=h2 i (by rw [List.length_map]; exact h) (by rw [List.length_map]; exact h')
  rw [e1 ps i h,e1 qs i h'] at a
  exact a
theorem OwnP.body {w:World} {B g cap n:Nat} {L:List P4} (h:OwnP w B (.slice (some ⟨g,0,none⟩) n cap) L) (k:Nat) (hk:k < L.length):w.cell? ⟨g,k * 4+1,none⟩ = some L[k].2.1:=by
 obtain ⟨A,c,e,_,hp⟩:=h.pc
 simp only [Value.slice.injEq] at e
 obtain ⟨rfl,_,rfl⟩:=e
 obtain ⟨b,off,e1,_,_,c1,_⟩:=hp k hk
 simp only [Option.some.injEq,Addr.mk.injEq] at e1
 obtain ⟨rfl,rfl,_⟩:=e1
 simpa using c1
theorem pbody {L:List P4} {ps:List XP} (h:L.map (fun q:P4=>q.2.1) = ps.map (fun p=>Value.string p.bd)):L.length = ps.length∧∀ k (hk:k < L.length) (hk':k < ps.length),L[k].2.1 = .string ps[k].bd:=by
 refine ⟨by have:=congrArg List.length h; simpa using this,fun k hk hk'=>?_⟩
 have h1:(L.map (fun q:P4=>q.2.1))[k]'(by rw [List.length_map]; exact hk) = L[k].2.1:=List.getElem_map _
 have h2:(ps.map (fun p=>Value.string p.bd))[k]'(by rw [List.length_map]; exact hk') = .string ps[k].bd:=List.getElem_map _
 rw [← h1,← h2]
 simp [h]
theorem leads_len (bs:List BP) (p:BP):(leadsB bs p).length ≤ p.body.length:=by
 unfold leadsB
 rw [List.length_map]
 unfold linksB
 split
 ·unfold saysP
  rw [List.length_map,links_len]
  have:=run_vals _ _ _ _ (itsP_run p.body)
  omega
 ·simp
theorem ld_at {L:List Ld} {M:List (List UInt8 × Option Nat)} (h:L.map ld2 = M) (k:Nat) (hk:k < L.length) (hk':k < M.length):M[k] = (L[k].1.data.toList,L[k].2):=by
 subst h
 rw [List.getElem_map]
 rfl
set_option maxHeartbeats 2000000 in
set_option maxRecDepth 100000 in
theorem law_any (s:ByteArray) (w:World) (hG:Glob w) (hP:PGB w w.heap.size) (hT:Tab w) :
  Calls Tryz.prog 3 #[.string s] w fun e w'=>e = .returned (.bool true)∧Below w.heap.size w w':=by
 by_cases hs:2500 < s.size
 ·have h1:(2500:Int) < (s.size:Int):=by omega
  clear hG hP hT
  go_enter Tryz.func3,Tryz.ntmps3
  go_wp2
  go_ret
  exact ⟨rfl,Below.refl _ _⟩
 have h1:¬ (2500:Int) < (s.size:Int):=by omega
 have HBo:=Box.mk (bound_any w hG hP hT)
 have HG:=Box.mk hG
 have hgb:=hG.gb
 have HP:=Box.mk hP
 have HT:=Box.mk hT
 have htl:=hT.lt
 clear hG hP hT
 go_enter Tryz.func3,Tryz.ntmps3
 go_wp2_with fail
 refine HBo.out.mono ?_
 rintro e w1 ⟨rfl,hb1⟩
 have HOp:=Box.mk (bopen_any s w1 (by omega) (HG.out.below hb1 hgb))
 obtain ⟨O,HO⟩:∃ O,Box (openE s.data.toList = O):=⟨_,⟨rfl⟩⟩
 rw [HO.out] at HOp
 clear HBo
 go_wp2_with fail
 refine HOp.out.mono ?_
 rintro e w2 ⟨hO,hb2⟩
 have hb02:=hb1.trans (hb2.mono hb1.size)
 clear HOp
 cases O with
 | error c =>
  have hO:e = .returned (.tuple #[.pointer none,.iface 30 (.int .i64 c)]):=hO
  subst hO
  clear HO
  go_wp2
  go_ret
  exact ⟨rfl,hb02⟩
 | ok bb =>
  obtain ⟨b,hv,hl,A,cap,ps,root,rfl,hB,hbb⟩:=(hO:∃ (b:Nat) (hv:Value) (hl:List Fl) (A:Option Addr) (cap:Nat) (ps:List XP) (root:Nat),e = .returned (.tuple #[.pointer (some ⟨b,0,none⟩),.nilIface])∧BN w2 b hv hl A cap ps root∧bb = ⟨hl.map fl2,ps.map XP.bp,root⟩)
  have HFi:=Box.mk (first_open s.data.toList bb HO.out (by rw [size_list]; omega))
  have HB:=Box.mk hB
  have HBB:=Box.mk hbb
  have HBi:=Box.mk (bbind_any hB bb hbb HFi.out (HG.out.below hb02 hgb) ((HP.out.below hb02).up hb02.size) (HT.out.below hb02 htl))
  clear hB hbb HO
  go_wp2_with fail
  refine HBi.out.mono ?_
  rintro e w3 ⟨k,hW,hap,-,hb3⟩
  have hb03:=hb02.trans (hb3.mono hb02.size)
  clear HBi
  cases hO2:topW (writeC 4 0 (bindB bb k)) with
  | error c =>
   rw [hO2] at hW
   have hW:e = .returned (.tuple #[.string ⟨#[]⟩,.iface 30 (.int .i64 c)]):=hW
   subst hW
   have hc4:=bind_err bb HFi.out k c hO2
   subst hc4
   have HE:=Box.mk (HG.out.et.below hb03 hgb.g2)
   clear hO2 hap
   go_wp2_with fail
   refine (tell_errno 4 _ HE.out).mono ?_
   rintro e w4 ⟨rfl,hb4⟩
   go_wp2
   go_ret
   exact ⟨rfl,hb03.trans (hb4.mono hb03.size)⟩
  | ok t =>
   rw [hO2] at hW
   obtain ⟨T,rfl,hTt⟩:=(hW:∃ T:ByteArray,e = .returned (.tuple #[.string T,.nilIface])∧T.data.toList = t)
   obtain ⟨cc,ho,hlen,hrt,hpl,hall⟩:=bound_opens bb HFi.out k hap t hO2
   have hTs:T.size ≤ 20000:=by rw [← hTt,size_list] at hlen; exact hlen
   have HOp:=Box.mk (bopen_any T w3 (by omega) (HG.out.below hb03 hgb))
   rw [hTt,ho] at HOp
   have HRt:=Box.mk hrt
   have HPl:=Box.mk hpl
   have HAll:=Box.mk hall
   clear hO2 hap ho hlen hrt hpl hall hTt
   go_wp2_with fail
   refine HOp.out.mono ?_
   rintro e w4 ⟨⟨b2,hv2,hl2,A2,cap2,qs,root2,rfl,hB2,hcc⟩,hb4⟩
   have hb24:=hb3.trans (hb4.mono hb3.size)
   have hb04:=hb02.trans (hb24.mono hb02.size)
   have hrr:root2 = root:=by have:=HRt.out; rw [hcc,HBB.out] at this; exact this
   subst hrr
   have HSm:Box (SameB ps qs):=⟨by
    have h3:=HPl.out
    have h4:=HAll.out
    rw [hcc,HBB.out] at h3
    refine same_of ps qs h3 ?_
    have h5:bb.ps = ps.map XP.bp:=by rw [HBB.out]
    have h6:cc.ps = qs.map XP.bp:=by rw [hcc]
    intro i hi hi'
    have h7:=h4 i (by rw [h5]; exact hi) (by rw [h6]; exact hi')
    simp only [h5,h6] at h7
    exact h7⟩
   have HB2:=Box.mk hB2
   have HB1:=Box.mk (HB.out.below hb24)
   clear HOp HRt HPl HAll hcc hB2 HBB HB HFi
   go_wp2_with fail
   refine (root_any HB2.out).mono ?_
   rintro e w5 ⟨rfl,hw5⟩
   obtain rfl:=hw5.symm
   go_wp2_with fail
   refine (root_any HB1.out).mono ?_
   rintro e w5 ⟨rfl,hw5⟩
   obtain rfl:=hw5.symm
   go_wp2_with fail
   refine (bparts_any HB1.out).mono ?_
   rintro e w5 ⟨u5,L5,rfl,hO5,hL5,hb5⟩
   have HB25:=Box.mk (HB2.out.below hb5)
   obtain ⟨A5,c5,hu5⟩:∃ A5 c5,u5 = .slice A5 ps.length c5:=by
    obtain ⟨A5,c5,e5⟩:=hO5.len
    exact ⟨A5,c5,by rw [e5,(pbody hL5).1]⟩
   subst hu5
   have HO5:=Box.mk hO5
   have HL5:=Box.mk hL5
   clear hO5 hL5
   go_wp2_with fail
   refine (bparts_any HB25.out).mono ?_
   rintro e w6 ⟨u6,L6,rfl,hO6,hL6,hb6⟩
   obtain ⟨A6,c6,hu6⟩:∃ A6 c6,u6 = .slice A6 ps.length c6:=by
    obtain ⟨A6,c6,e6⟩:=hO6.len
    exact ⟨A6,c6,by rw [e6,(pbody hL6).1,HSm.out.len]⟩
   subst hu6
   have HO6:=Box.mk hO6
   have HL6:=Box.mk hL6
   have HO56:=Box.mk (OwnP.belowP HO5.out hb6 (Nat.le_refl _))
   have hb46:=hb5.trans (hb6.mono hb5.size)
   have hb06:=hb04.trans (hb46.mono hb04.size)
   have HB16:=Box.mk (HB1.out.below hb46)
   have HB26:=Box.mk (HB25.out.below hb6)
   have hpl60:=HB1.out.xl.len
   clear hO6 hL6 HO5 HB25 HB1 HB2
   go_wp2
   go_loopw [9] (fun i wr=>∃ j:Nat,j ≤ ps.length∧i = .int .i64 j∧Below w6.heap.size w6 wr) (fun i _=>ps.length - (intOf i).toNat)
   case atStart=>exact ⟨0,Nat.zero_le _,rfl,Below.refl _ _⟩
   case round =>
    obtain ⟨j,hj,rfl,hbr⟩:=hrel
    by_cases hlt:j < ps.length
    ·have hlt2:j < qs.length:=by rw [HSm.out.len]; exact hlt
     have HAt1:=Box.mk (at_any (HB16.out.below hbr) j hlt)
     have hloc:=HSm.out.loc j hlt hlt2
     have hbd:=HSm.out.body j hlt hlt2
     have hlk:=HSm.out.leads j hlt hlt2
     have HBd1:Box (L5[j]'(by rw [(pbody HL5.out).1]; exact hlt) |>.2.1 = .string ps[j].bd):=⟨(pbody HL5.out).2 j _ hlt⟩
     have HBd2:Box (L6[j]'(by rw [(pbody HL6.out).1]; exact hlt2) |>.2.1 = .string qs[j].bd):=⟨(pbody HL6.out).2 j _ hlt2⟩
     have k7:(j:Int) < (ps.length:Int):=by omega
     have k8:(0:Int) ≤ (j:Int):=by omega
     have HLk:=Box.mk hlk
     have HBd:=Box.mk hbd
     have HLe1:Box (∀ w',Below w6.heap.size w6 w' → Calls Tryz.prog 11 #[.pointer (some ⟨b,0,none⟩),.int .i64 (j:Int)] w' fun e w''=>∃ v L,e = .returned (.tuple #[v,.nilIface])∧OwnD w'' w'.heap.size v L∧L.map ld2 = leadsB (ps.map XP.bp) ps[j].bp∧Below w'.heap.size w' w''):=⟨fun w' hb'=>by
      have hbw:=hb06.trans (hb'.mono hb06.size)
      exact bleads_any (HB16.out.below hb') j hlt ((HP.out.below hbw).up hbw.size) (HG.out.mx.below hbw hgb.g0)⟩
     have HLe2:Box (∀ w',Below w6.heap.size w6 w' → Calls Tryz.prog 11 #[.pointer (some ⟨b2,0,none⟩),.int .i64 (j:Int)] w' fun e w''=>∃ v L,e = .returned (.tuple #[v,.nilIface])∧OwnD w'' w'.heap.size v L∧L.map ld2 = leadsB (qs.map XP.bp) qs[j].bp∧Below w'.heap.size w' w''):=⟨fun w' hb'=>by
      have hbw:=hb06.trans (hb'.mono hb06.size)
      exact bleads_any (HB26.out.below hb') j hlt2 ((HP.out.below hbw).up hbw.size) (HG.out.mx.below hbw hgb.g0)⟩
     have HAt2:Box (∀ w',Below w6.heap.size w6 w' → Calls Tryz.prog 10 #[.pointer (some ⟨b2,0,none⟩),.int .i64 (j:Int)] w' fun e w''=>e = .returned (.tuple #[ps[j].loc.val,.nilIface])∧Below w'.heap.size w' w''):=⟨fun w' hb'=>by
      have:=at_any (HB26.out.below hb') j hlt2
      rw [hloc] at this
      exact this⟩
     have hD1l:(leadsB (ps.map XP.bp) ps[j].bp).length ≤ 100000:=by
      have h1:=leads_len (ps.map XP.bp) ps[j].bp
      have h2:=(HB16.out.xl.sm ps[j] (List.getElem_mem hlt)).bs
      have h3:ps[j].bp.body.length = ps[j].bd.size:=size_list _
      omega
     generalize leadsB (ps.map XP.bp) ps[j].bp = D1 at HLk HBd HLe1 hD1l
     generalize leadsB (qs.map XP.bp) qs[j].bp = D2 at HLk HLe2
     generalize ps[j].loc = lc at HAt1 HAt2
     obtain ⟨x0,x1,x2,x3,x4,x5,x6,x7⟩:=lc
     have HCl:Box (∀ w',Below w6.heap.size w6 w' → ∃ g1 g2,A5 = some ⟨g1,0,none⟩∧A6 = some ⟨g2,0,none⟩∧w'.cell? ⟨g1,j * 4+1,none⟩ = some (.string ps[j].bd)∧w'.cell? ⟨g2,j * 4+1,none⟩ = some (.string qs[j].bd)):=⟨fun w' hb'=>by
      have o5:=OwnP.belowP HO56.out hb' (Nat.le_refl _)
      have o6:=OwnP.belowP HO6.out hb' (Nat.le_refl _)
      have n5:=(pbody HL5.out).1
      have n6:=(pbody HL6.out).1
      rcases o5.shape with ⟨_,hz⟩ | ⟨g1,q1,e1,_⟩
      ·rw [hz] at n5; simp at n5; omega
      rcases o6.shape with ⟨_,hz⟩ | ⟨g2,q2,e2,_⟩
      ·rw [hz] at n6; simp at n6; omega
      simp only [Value.slice.injEq] at e1 e2
      obtain ⟨rfl,-,rfl⟩:=e1
      obtain ⟨rfl,-,rfl⟩:=e2
      refine ⟨g1,g2,rfl,rfl,?_,?_⟩
      ·rw [o5.body j (by omega),HBd1.out]
      ·rw [o6.body j (by omega),HBd2.out]⟩
     clear HBd1 HBd2 hloc hbd hlk
     generalize ps[j].bd = y1 at HCl HBd
     generalize qs[j].bd = y2 at HCl HBd
     go_wp2_with fail
     refine HAt1.out.mono ?_
     rintro e w8 ⟨rfl,hb8⟩
     have hbr8:=hbr.trans (hb8.mono hbr.size)
     have hbA:Below w8.heap.size w8 (w8.alloc (obj8 x0 x1 x2 x3 x4 x5 x6 x7)):=(Below.refl _ _).alloc (Nat.le_refl _) _
     have hgA:=heap_newN w8 (obj8 x0 x1 x2 x3 x4 x5 x6 x7)
     have hbrA:=hbr8.trans (hbA.mono hbr8.size)
     clear HAt1
     go_wp2_with fail
     refine (HAt2.out _ hbrA).mono ?_
     rintro e w9 ⟨rfl,hb9⟩
     have hbr9:=hbrA.trans (hb9.mono hbrA.size)
     have hbB:Below w9.heap.size w9 (w9.alloc (obj8 x0 x1 x2 x3 x4 x5 x6 x7)):=(Below.refl _ _).alloc (Nat.le_refl _) _
     have hgB:=heap_newN w9 (obj8 x0 x1 x2 x3 x4 x5 x6 x7)
     have hgA9:=heap_in hbB (heap_in hb9 hgA)
     have hbrB:=hbr9.trans (hbB.mono hbr9.size)
     clear HAt2 hgA hbA hb8 hbrA
     go_wp2_with fail
     refine (HLe1.out _ hbrB).mono ?_
     rintro e wA ⟨v1,K1,rfl,hK1,hD1,hbA⟩
     have hbrA:=hbrB.trans (hbA.mono hbrB.size)
     obtain ⟨E1,f1,hv1⟩:∃ E1 f1,v1 = .slice E1 K1.length f1:=by
      rcases hK1.shape with ⟨h1,h2⟩ | ⟨g,cg,h1,_⟩
      ·exact ⟨none,0,by rw [h1,h2]; rfl⟩
      ·exact ⟨_,_,h1⟩
     subst hv1
     clear HLe1
     go_wp2_with fail
     refine (HLe2.out _ hbrA).mono ?_
     rintro e wB ⟨v2,K2,rfl,hK2,hD2,hbB2⟩
     have hbrE:=hbrA.trans (hbB2.mono hbrA.size)
     have hlen:K2.length = K1.length:=by
      have h1:=HLk.out.1
      rw [← hD1,← hD2,List.length_map,List.length_map] at h1
      exact h1.symm
     obtain ⟨E2,f2,hv2⟩:∃ E2 f2,v2 = .slice E2 K1.length f2:=by
      rw [← hlen]
      rcases hK2.shape with ⟨h1,h2⟩ | ⟨g,cg,h1,_⟩
      ·exact ⟨none,0,by rw [h1,h2]; rfl⟩
      ·exact ⟨_,_,h1⟩
     subst hv2
     have HLi:Box (∀ k (hk:k < K1.length) (hk':k < K2.length),likeL (K1[k].1.data.toList,K1[k].2) (K2[k].1.data.toList,K2[k].2)):=⟨fun k hk hk'=>by
      have h1:=HLk.out.2 k (by rw [← hD1,List.length_map]; exact hk) (by rw [← hD2,List.length_map]; exact hk')
      rw [ld_at hD1 k hk,ld_at hD2 k hk'] at h1
      exact h1⟩
     have hK1l:K1.length ≤ 100000:=by rw [← hD1,List.length_map] at hD1l; exact hD1l
     have HB0:Box (K1.length = 0 → y2 = y1):=⟨fun h0=>HBd.out (by rw [← hD1,List.eq_nil_of_length_eq_zero h0]; rfl)⟩
     have HK1:=Box.mk (OwnD.below hK1 hbB2 (Nat.le_refl _))
     have HK2:=Box.mk hK2
     have HLen:=Box.mk hlen
     have hgAE:=heap_in hbB2 (heap_in hbA hgA9)
     have hgBE:=heap_in hbB2 (heap_in hbA hgB)
     obtain ⟨g1,g2,rfl,rfl,q1,q2⟩:=HCl.out wB hbrE
     obtain ⟨a0,a1,a2,a3,a4,a5,a6,a7,-⟩:=blk_of hgAE
     obtain ⟨b0,b1,b2',b3,b4,b5,b6,b7,-⟩:=blk_of hgBE
     have heq:=eq8_run ⟨x0,x1,x2,x3,x4,x5,x6,x7⟩ ⟨x0,x1,x2,x3,x4,x5,x6,x7⟩ true (by simp)
     clear HLe2 hK1 hK2 hD1l hD1 hD2 hgA9 hgB hgAE hgBE HCl HLk HBd hlen hbA hbB hb9 hbB2 hbr8 hbr9 hbrA hbrB
     go_wp2_with fail
     by_cases h0:K1.length = 0
     ·have hz:((K1.length:Int) == 0) = true:=by rw [h0]; rfl
      have hy:=HB0.out h0
      subst hy
      have H0:=Box.mk h0
      clear h0
      go_quiet (fail)
      clear a0 a1 a2 a3 a4 a5 a6 a7 b0 b1 b2' b3 b4 b5 b6 b7 q1 q2 heq
      go_wp2
      have hbD:=below_dN (Below.refl wB.heap.size wB) nq
      go_loopw [18] (fun i wr=>∃ k:Nat,k ≤ K1.length∧i = .int .i64 k∧Below wB.heap.size wB wr) (fun i _=>K1.length - (intOf i).toNat)
      case atStart=>exact ⟨0,Nat.zero_le _,rfl,hbD⟩
      case round =>
       obtain ⟨k,hk,rfl,hbk⟩:=hrel
       by_cases hkl:k < K1.length
       ·have hkl2:k < K2.length:=by rw [HLen.out]; exact hkl
        obtain ⟨r1,r2,rfl,rfl,m0,m1,m2,m3⟩:∃ r1 r2,E1 = some ⟨r1,0,none⟩∧E2 = some ⟨r2,0,none⟩∧wr.cell? ⟨r1,k * 2,none⟩ = some (.string K1[k].1)∧wr.cell? ⟨r1,k * 2+1,none⟩ = some (idxV K1[k].2)∧wr.cell? ⟨r2,k * 2,none⟩ = some (.string K2[k].1)∧wr.cell? ⟨r2,k * 2+1,none⟩ = some (idxV K2[k].2):=by
         have o1:=OwnD.below HK1.out hbk (Nat.le_refl _)
         have o2:=OwnD.below HK2.out hbk (Nat.le_refl _)
         rcases o1.shape with ⟨_,hz⟩ | ⟨r1,_,e1,_⟩
         ·rw [hz] at hkl; simp at hkl
         rcases o2.shape with ⟨_,hz⟩ | ⟨r2,_,e2,_⟩
         ·rw [hz] at hkl2; simp at hkl2
         simp only [Value.slice.injEq] at e1 e2
         obtain ⟨rfl,-,-⟩:=e1
         obtain ⟨rfl,-,-⟩:=e2
         exact ⟨r1,r2,rfl,rfl,(o1.cell k hkl).1,(o1.cell k hkl).2,(o2.cell k hkl2).1,(o2.cell k hkl2).2⟩
        obtain ⟨l2,l3,l4⟩:=HLi.out k hkl hkl2
        simp only at l2 l3 l4
        rw [← l2] at m3
        clear l2
        generalize K1[k].1 = z1 at m0 l3
        generalize K2[k].1 = z2 at m2 l3 l4
        generalize K1[k].2 = o at m1 m3 l3 l4
        have k9:(k:Int) < (K1.length:Int):=by omega
        have ka:(0:Int) ≤ (k:Int):=by omega
        cases o with
        | none =>
         replace m1:wr.cell? ⟨r1,k * 2+1,none⟩ = some (.int .i64 (-1)):=m1
         replace m3:wr.cell? ⟨r2,k * 2+1,none⟩ = some (.int .i64 (-1)):=m3
         obtain rfl:z1 = z2:=bytes_eq (l3 rfl)
         clear l3 l4
         go_wp2_with fail
         go_quiet (fail)
         clear m0 m1 m2 m3
         go_wp2
         go_roundw
         case rel=>exact ⟨k+1,by omega,by go_num,below_dN hbk _⟩
         case measure=>simp [intOf]; omega
        | some n =>
         replace m1:wr.cell? ⟨r1,k * 2+1,none⟩ = some (.int .i64 (n:Int)):=m1
         replace m3:wr.cell? ⟨r2,k * 2+1,none⟩ = some (.int .i64 (n:Int)):=m3
         have HPx:Box (∀ w',Calls Tryz.prog 12 #[.string z2,.string ⟨#[99,105,100,58,112,97,114,116]⟩] w' fun e w''=>e = .returned (.bool true)∧w'' = w'):=⟨fun w'=>by
          have h1:=Tryz.strings_HasPrefix z2 ⟨#[99,105,100,58,112,97,114,116]⟩ w'
          have h2:Lib.hasPrefix z2.data.toList (⟨#[99,105,100,58,112,97,114,116]⟩:ByteArray).data.toList = true:=by
           obtain ⟨t,ht⟩:=l4 (by simp)
           rw [ht]
           rfl
          rw [h2] at h1
          exact h1⟩
         have n1:decide ((n:Int) < 0) = false:=decide_eq_false (by omega)
         have n2:(0:Int) ≤ (n:Int):=by omega
         clear l3 l4
         go_wp2_with fail
         go_quiet (first | (go_at_call 12; refine Calls.quiet_of_same (HPx.out _)))
         clear m0 m1 m2 m3 n1 n2
         go_wp2
         go_roundw
         case rel=>exact ⟨k+1,by omega,by go_num,below_dN hbk _⟩
         case measure=>simp [intOf]; omega
       ·have hkk:¬ ((k:Int) < (K1.length:Int)):=by omega
        go_wp2
        go_roundw
        case rel=>exact ⟨j+1,by omega,by go_num,hbrE.trans (hbk.mono hbrE.size)⟩
        case measure=>simp [intOf]; omega
     ·have hz:((K1.length:Int) == 0) = false:=beq_eq_false_iff_ne.2 (by omega)
      clear h0
      go_quiet (fail)
      clear a0 a1 a2 a3 a4 a5 a6 a7 b0 b1 b2' b3 b4 b5 b6 b7 q1 q2 heq
      go_wp2
      have hbD:=below_dN (Below.refl wB.heap.size wB) nq
      go_loopw [18] (fun i wr=>∃ k:Nat,k ≤ K1.length∧i = .int .i64 k∧Below wB.heap.size wB wr) (fun i _=>K1.length - (intOf i).toNat)
      case atStart=>exact ⟨0,Nat.zero_le _,rfl,hbD⟩
      case round =>
       obtain ⟨k,hk,rfl,hbk⟩:=hrel
       by_cases hkl:k < K1.length
       ·have hkl2:k < K2.length:=by rw [HLen.out]; exact hkl
        obtain ⟨r1,r2,rfl,rfl,m0,m1,m2,m3⟩:∃ r1 r2,E1 = some ⟨r1,0,none⟩∧E2 = some ⟨r2,0,none⟩∧wr.cell? ⟨r1,k * 2,none⟩ = some (.string K1[k].1)∧wr.cell? ⟨r1,k * 2+1,none⟩ = some (idxV K1[k].2)∧wr.cell? ⟨r2,k * 2,none⟩ = some (.string K2[k].1)∧wr.cell? ⟨r2,k * 2+1,none⟩ = some (idxV K2[k].2):=by
         have o1:=OwnD.below HK1.out hbk (Nat.le_refl _)
         have o2:=OwnD.below HK2.out hbk (Nat.le_refl _)
         rcases o1.shape with ⟨_,hz⟩ | ⟨r1,_,e1,_⟩
         ·rw [hz] at hkl; simp at hkl
         rcases o2.shape with ⟨_,hz⟩ | ⟨r2,_,e2,_⟩
         ·rw [hz] at hkl2; simp at hkl2
         simp only [Value.slice.injEq] at e1 e2
         obtain ⟨rfl,-,-⟩:=e1
         obtain ⟨rfl,-,-⟩:=e2
         exact ⟨r1,r2,rfl,rfl,(o1.cell k hkl).1,(o1.cell k hkl).2,(o2.cell k hkl2).1,(o2.cell k hkl2).2⟩
        obtain ⟨l2,l3,l4⟩:=HLi.out k hkl hkl2
        simp only at l2 l3 l4
        rw [← l2] at m3
        clear l2
        generalize K1[k].1 = z1 at m0 l3
        generalize K2[k].1 = z2 at m2 l3 l4
        generalize K1[k].2 = o at m1 m3 l3 l4
        have k9:(k:Int) < (K1.length:Int):=by omega
        have ka:(0:Int) ≤ (k:Int):=by omega
        cases o with
        | none =>
         replace m1:wr.cell? ⟨r1,k * 2+1,none⟩ = some (.int .i64 (-1)):=m1
         replace m3:wr.cell? ⟨r2,k * 2+1,none⟩ = some (.int .i64 (-1)):=m3
         obtain rfl:z1 = z2:=bytes_eq (l3 rfl)
         clear l3 l4
         go_wp2_with fail
         go_quiet (fail)
         clear m0 m1 m2 m3
         go_wp2
         go_roundw
         case rel=>exact ⟨k+1,by omega,by go_num,below_dN hbk _⟩
         case measure=>simp [intOf]; omega
        | some n =>
         replace m1:wr.cell? ⟨r1,k * 2+1,none⟩ = some (.int .i64 (n:Int)):=m1
         replace m3:wr.cell? ⟨r2,k * 2+1,none⟩ = some (.int .i64 (n:Int)):=m3
         have HPx:Box (∀ w',Calls Tryz.prog 12 #[.string z2,.string ⟨#[99,105,100,58,112,97,114,116]⟩] w' fun e w''=>e = .returned (.bool true)∧w'' = w'):=⟨fun w'=>by
          have h1:=Tryz.strings_HasPrefix z2 ⟨#[99,105,100,58,112,97,114,116]⟩ w'
          have h2:Lib.hasPrefix z2.data.toList (⟨#[99,105,100,58,112,97,114,116]⟩:ByteArray).data.toList = true:=by
           obtain ⟨t,ht⟩:=l4 (by simp)
           rw [ht]
           rfl
          rw [h2] at h1
          exact h1⟩
         have n1:decide ((n:Int) < 0) = false:=decide_eq_false (by omega)
         have n2:(0:Int) ≤ (n:Int):=by omega
         clear l3 l4
         go_wp2_with fail
         go_quiet (first | (go_at_call 12; refine Calls.quiet_of_same (HPx.out _)))
         clear m0 m1 m2 m3 n1 n2
         go_wp2
         go_roundw
         case rel=>exact ⟨k+1,by omega,by go_num,below_dN hbk _⟩
         case measure=>simp [intOf]; omega
       ·have hkk:¬ ((k:Int) < (K1.length:Int)):=by omega
        go_wp2
        go_roundw
        case rel=>exact ⟨j+1,by omega,by go_num,hbrE.trans (hbk.mono hbrE.size)⟩
        case measure=>simp [intOf]; omega
    ·have hkk:¬ ((j:Int) < (ps.length:Int)):=by omega
     go_wp2
     go_ret
     exact ⟨rfl,hb06.trans (hbr.mono hb06.size)⟩
end Go.Proofs.YtknhacbfddggpaaGreatDoor
