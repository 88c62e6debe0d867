import Derived.Test.YtknhacbfddggpaaGreatDoorZ31
import Derived.Deep.RegionHeld3
namespace Go.Proofs.YtknhacbfddggpaaGreatDoor
open Go.RowKit
theorem wp_appT3 {ops:Array Oper} {rest:List Oper} {o:Oper} {a:Act} {Q:Exit → Act → World → Prop} (W:World) (hgd:o.guard = none) (s x:Operand) (ho:o.op = .call { callee:=.builtin .append,args:=#[s,x],argTypes:=#[98,98] })
  (B:Nat) (v:Value) (L:List ByteArray) (hs:a.eval s = v) (hown:OwnS W B v L) (b c:Nat) (t:ByteArray) (hx:a.eval x = .slice (some ⟨b,0,none⟩) 1 c) (h0:W.cell? ⟨b,0,none⟩ = some (.string t)) (hl:L.length+1 ≤ 1000000) (hB:B ≤ W.heap.size)
  (h:∀ v' w',OwnS w' B v' (L++[t]) → W.grownBy w' v.ownBlock → (v'.ownBlock = v.ownBlock ∨ v'.ownBlock = some W.heap.size) → wpList Tryz.prog ops Q rest (a.put o.dst v') w'):wpList Tryz.prog ops Q (o :: rest) a W:=by
 refine wpList_plain hgd fun _ hK=>?_
 obtain ⟨i0,hi,hz0,hz1,hz2⟩:=info_parts Tryz.infoStr
 have hne:∀ j u,[Value.string t][j]? = some u → W.cell? ((⟨b,0,none⟩:Addr).add j) = some u:=by
  intro j u hj
  have hjl:j < 1:=(List.getElem?_eq_some_iff.1 hj).1
  rw [Addr.add_lit,Nat.zero_add]
  match j,hjl,hj with
  | 0,_,hj=>rw [h0]; exact hj
 have hone:∀ u ∈ [Value.string t],u.oneCell' = true:=by
  intro u hu
  rw [List.mem_singleton.1 hu]; rfl
 obtain ⟨v',w',hr,k2,k3,_⟩:=run_append_own (P:=Tryz.prog) W B 98 o.type 9 i0 (.string ⟨#[]⟩) 1 16 Tryz.underlying98 hi hz0 hz1 hz2 rfl (by decide) v L.length (L.map Value.string) hown ⟨b,0,none⟩ 1 c [.string t] rfl hne hone (by unfold maxLen; omega) (by omega) hB
 have hblk:=append_block W B 98 o.type 9 i0 (.string ⟨#[]⟩) 1 16 Tryz.underlying98 hi hz0 hz1 hz2 v L.length (L.map Value.string) hown ⟨b,0,none⟩ 1 c [.string t] rfl hne hone (by decide) (by unfold maxLen; omega) (by omega) v' w' hr
 unfold Oper.wp execOp
 simp only [ho,resolve,invoke,builtin,Sem.run_bind,Sem.run_pure,Result.andThen_ok,List.map_toArray,List.map_cons,List.map_nil,hs,hx,hr]
 refine hK _ _ (h v' w' ?_ k3 hblk)
 unfold OwnS
 rw [List.length_append,List.map_append]
 exact k2
theorem freeU_ok (xs:List (List UInt8)):okBd (freeU xs):=by
 unfold freeU
 split
 ·have e:numB 0 = [98,48]:=by
   unfold numB
   rw [Lib.decDigits]
   rfl
  rw [e]
  refine ⟨by simp,by simp,?_⟩
  intro c hc
  have:c = 98 ∨ c = 48:=by simpa using hc
  rcases this with rfl | rfl <;> decide
 ·exact bnd_ok xs (by omega)
theorem Tab.gr {w w':World} {bc:Nat} (h:Tab w) (hg:w.grownBy w' (some bc)) (hc:3 < bc) (hl:bc < w.heap.size):Tab w':=h.below (below_gr hg (Nat.le_refl _) hl) hc
def WrAt (d:Nat):Prop:=∀ (D:Nat) (p:PT) (v:P4) (n bc k:Nat) (w:World) (S:Nat → Prop),(∀ i,S i → i ≠ bc) → PV w S D v p → SmT D p → n ≤ 40 → k+d = 4 → CI w bc n → Glob w → Tab w → GB bc → 3 < bc →
  Calls Tryz.prog 61 #[.pointer (some ⟨bc,0,none⟩),v.v,.int .i64 k] w fun e w'=>WrPost (writeC d n p) bc e w'∧w.grownBy w' (some bc)
def WmPost (O:Except Nat (List (List UInt8) × Nat)) (L:List PB) (bc:Nat) (e:Ending) (w':World):Prop:=
 match O with
 | .error c=>e = .returned (.tuple #[.string ⟨#[]⟩,.iface 30 (.int .i64 c)])
 | .ok r=>∃ S:ByteArray,e = .returned (.tuple #[.string S,.nilIface])∧S.data.toList = headW (setCT (freeU r.1) L)++piecesW (freeU r.1) r.1∧CI w' bc r.2
def ShortL (lh:List Fl):Prop:=lh.length ≤ 3000∧(∀ f ∈ lh,f.1.size ≤ 8000∧f.2.size ≤ 8000)∧hsz (lh.map fl2) ≤ 30000
theorem ShortL.tiny {lh:List Fl} (h:ShortL lh):Tiny lh:=⟨by have:=h.1; omega,fun f hf=>by have:=h.2.1 f hf; omega⟩
theorem sumX_snoc (xs:List (List UInt8)) (x:List UInt8):sumX (xs++[x]) = sumX xs+(x.length+100):=by
 induction xs with
 | nil=>simp [sumX]
 | cons y xs ih=>rw [List.cons_append,sumX_cons,sumX_cons,ih]; omega
theorem sumX_mem (ss:List ByteArray) (x:ByteArray) (hx:x ∈ ss):x.size ≤ sumX (ss.map lst):=by
 induction ss with
 | nil=>cases hx
 | cons y ss ih =>
  rw [List.map_cons,sumX_cons]
  rcases List.mem_cons.1 hx with rfl | hx
  ·unfold lst; rw [size_list]; omega
  ·have:=ih hx; omega
theorem edge_mid (E:List UInt8) (hE:okBd E) (lh M:List Fl) (hsh:ShortL lh) (hR:(lh.map fl2).all rightB = true) (b:Option (List UInt8)) (hmn:maniesS (lh.map fl2) = .ok b) (hM:M.map fl2 = setCT E (lh.map fl2)):Mid M∧firstW M = M.length∧(fieldsB M).length ≤ 1000000:=by
 obtain ⟨c1,c2⟩:=setCT_len E (lh.map fl2) 8000 8000 (by
  intro f hf
  obtain ⟨g,hg,rfl⟩:=List.mem_map.1 hf
  have:=hsh.2.1 g hg
  unfold fl2
  simp only
  rw [size_list,size_list]
  exact this)
 rw [← hM,List.length_map,List.length_map] at c1
 have hs:∀ f ∈ M,f.1.size ≤ 24300∧f.2.size ≤ 24300:=by
  intro f hf
  have:=c2 (fl2 f) (by rw [← hM]; exact List.mem_map_of_mem hf)
  have hl:=hE.2.1
  unfold fl2 at this
  simp only at this
  rw [size_list,size_list] at this
  omega
 have hl:=hsh.1
 refine ⟨⟨by omega,hs⟩,?_,?_⟩
 ·have h1:=right_set E hE (lh.map fl2) hR (manies_read _ b hmn)
  rw [← hM,right_first] at h1
  exact of_decide_eq_true h1
 ·have h3:=fieldsB_hsz M
  have h4:=setCT_hsz E (lh.map fl2)
  rw [hM] at h3
  have h5:=hE.2.1
  have h6:=hsh.2.2
  omega
set_option maxHeartbeats 4000000 in
set_option maxRecDepth 100000 in
theorem pwriteMany_any (d:Nat) (ih:WrAt d) (D:Nat) (A:Option Addr) (n1 c1:Nat) (bb:ByteArray) (A2:Option Addr) (cap2:Nat) (lh:List Fl) (ps:List PT) (b:List UInt8) (n bc k:Nat) (w:World) (S:Nat → Prop) (hS:∀ i,S i → i ≠ bc) (hF:FLB w S (.slice A n1 c1) lh) (hsh:ShortL lh) (hR:(lh.map fl2).all rightB = true) (hmn:maniesS (lh.map fl2) = .ok (some b))
  (hl:ps.length ≤ 60) (hps:∀ k (hk:k < ps.length),∃ q,PC w S A2 k q∧PV w S D q ps[k]) (hsm:∀ p ∈ ps,SmT D p) (hn:n ≤ 40) (hk:k+d = 4) (hc:CI w bc n) (hG:Glob w) (hT:Tab w) (hbc:GB bc) (hbt:3 < bc) :
  Calls Tryz.prog 99 #[.pointer (some ⟨bc,0,none⟩),.agg #[.slice A n1 c1,.string bb,.bool true,.slice A2 ps.length cap2],.int .i64 k] w fun e w'=>WmPost (allG (writeC d) ps n) (lh.map fl2) bc e w'∧w.grownBy w' (some bc):=by
 obtain ⟨R,HR⟩:∃ R,Box (R = allG (writeC d) ps n):=⟨_,⟨rfl⟩⟩
 rw [← HR.out]
 have HA:Box (AllI (writeC d) ps R 0 n []):=⟨by rw [HR.out]; exact all_start _ _ _⟩
 have hbl:=hc.lt
 obtain ⟨W,HW⟩:∃ W,Box (W = w.alloc (obj4 (.slice A n1 c1) (.string bb) (.bool true) (.slice A2 ps.length cap2))):=⟨_,⟨rfl⟩⟩
 have hb0:Below w.heap.size w W:=by rw [HW.out]; exact below_oneP w _
 have hszW:W.heap.size = w.heap.size+1:=by rw [HW.out]; exact size_oneP w _
 have hkW:W.heap[w.heap.size]? = some (obj4 (.slice A n1 c1) (.string bb) (.bool true) (.slice A2 ps.length cap2)):=by rw [HW.out]; exact heap_oneP w _
 have HKW:=Box.mk hkW
 have HC:=Box.mk (hc.below hb0 hc.lt)
 have HG:=Box.mk (hG.below hb0 hG.gb)
 have HT:=Box.mk (hT.below hb0 hT.lt)
 have HF:=Box.mk hF
 have HSh:=Box.mk hsh
 have HRt:=Box.mk hR
 have HMn:=Box.mk hmn
 have HP:=Box.mk hps
 have HSm:=Box.mk hsm
 have IH:=Box.mk ih
 have HSS:=Box.mk hS
 clear hc hG hT hF hsh hR hmn hps hsm ih hkW hS
 go_enter Tryz.func99,Tryz.ntmps99
 go_wp2
 rw [← HW.out]
 go_loopw [8,19] (fun v i wr=>∃ (j c:Nat) (ss:List ByteArray),j ≤ ps.length∧i = .int .i64 j∧ss.length ≤ j∧c ≤ 40∧n ≤ c∧Box (OwnS wr W.heap.size v ss)∧Box (CI wr bc c)∧W.grownBy wr (some bc)∧Box (AllI (writeC d) ps R j c (ss.map lst))∧Box (sumX (ss.map lst) ≤ (c - n) * 1000000)) (fun _ i _=>ps.length - (intOf i).toNat)
 case atStart=>exact ⟨0,n,[],Nat.zero_le _,rfl,Nat.le_refl _,hn,Nat.le_refl _,⟨OwnS.nil _ _⟩,HC,gr_below (Below.refl _ _) _,HA,⟨by simp [sumX]⟩⟩
 case round =>
  obtain ⟨j,c,ss,hj,rfl,hss,hc40,hnc,hO,hC,hg,HI,HX⟩:=hrel
  have hsz:=hg.size
  have hg0:w.grownBy wr (some bc):=gr_trans (gr_below hb0 _) hg
  have HGr:=Box.mk (HG.out.gr hg hbc (by omega))
  have HTr:=Box.mk (HT.out.gr hg hbt (by omega))
  by_cases hlt:j < ps.length
  ·obtain ⟨q,⟨b1,o1,hA2,hb1,r0,r1,r2,r3⟩,hv1⟩:=HP.out j hlt
   subst hA2
   obtain ⟨E1,m1,g1,bb1,mm1,E2,m2,g2,rfl⟩:=hv1.shape
   have hab:Abv S w wr:=abv_gr hg0 (fun i hi e=>HSS.out i hi (Option.some.inj e))
   have r0':=hab.cell (p:=⟨b1,o1+j * 4,none⟩) hb1 r0
   have r1':=hab.cell (p:=⟨b1,o1+j * 4+1,none⟩) hb1 r1
   have r2':=hab.cell (p:=⟨b1,o1+j * 4+2,none⟩) hb1 r2
   have r3':=hab.cell (p:=⟨b1,o1+j * 4+3,none⟩) hb1 r3
   simp only at r0' r1' r2' r3'
   have hba:=below_oneP wr (obj4 (.slice E1 m1 g1) (.string bb1) (.bool mm1) (.slice E2 m2 g2))
   have HV:=Box.mk (PV.abv (abv_below hba) _ _ _ (PV.abv hab _ _ _ hv1))
   have HCa:=Box.mk (hC.out.below hba hC.out.lt)
   have HGa:=Box.mk (HGr.out.below hba HGr.out.gb)
   have HTa:=Box.mk (HTr.out.below hba HTr.out.lt)
   have HOa:=Box.mk (hO.out.below hba (Nat.le_refl _))
   have hgj:ps[j]? = some ps[j]:=List.getElem?_eq_getElem hlt
   have HGj:=Box.mk hgj
   have HSj:=Box.mk (HSm.out ps[j] (List.getElem_mem hlt))
   clear hv1 r0 r1 r2 r3 hgj hab HP
   obtain ⟨x,hx⟩:∃ x,x = ps[j]:=⟨_,rfl⟩
   rw [← hx] at HGj HSj HV
   clear hx
   go_wp2_with fail
   refine (IH.out D x (.slice E1 m1 g1,.string bb1,.bool mm1,.slice E2 m2 g2) c bc k _ S HSS.out HV.out HSj.out hc40 hk HCa.out HGa.out HTa.out hbc hbt).mono ?_
   rintro e w2 ⟨hR2,hg2⟩
   have hg02:=gr_trans (gr_trans hg (gr_below hba _)) hg2
   have hsz2:=hg2.size
   have hsza:(wr.alloc (obj4 (.slice E1 m1 g1) (.string bb1) (.bool mm1) (.slice E2 m2 g2))).heap.size = wr.heap.size+1:=size_oneP wr _
   clear HV HCa HGa HTa hC HGr HTr r0' r1' r2' r3'
   unfold WrPost at hR2
   cases hq:writeC d c x with
   | error z =>
    rw [hq] at hR2
    obtain rfl:=hR2
    have HE:=Box.mk (all_err HI.out _ HGj.out z hq)
    clear HI hq HGj hO HX IH HSm HKW HA HG HC HF HOa HSj
    go_wp2
    go_ret2
    refine ⟨?_,gr_trans (gr_below hb0 _) hg02⟩
    rw [HE.out]
    rfl
   | ok q =>
    rw [hq] at hR2
    obtain ⟨T,rfl,hTq,hC2⟩:=hR2
    have hql:=writeC_len d D c x q HSj.out hq
    have HI':=Box.mk (all_ok HI.out _ HGj.out q hq)
    have HX':Box (sumX ((ss++[T]).map lst) ≤ (q.2 - n) * 1000000):=⟨by
     rw [List.map_append,List.map_cons,List.map_nil,sumX_snoc]
     have h1:=HX.out
     have h2:(lst T).length = q.1.length:=by unfold lst; rw [hTq]
     omega⟩
    have hI2:AllI (writeC d) ps R (j+1) q.2 ((ss++[T]).map lst):=by
     have:=HI'.out
     rw [← hTq] at this
     simpa [lst] using this
    have HI2:=Box.mk hI2
    have HC2:=Box.mk hC2
    have HO2:=Box.mk (OwnS.kept HOa.out hg2 (by omega))
    have hq40:=hql.2.1
    have hqn:n ≤ q.2:=by omega
    obtain ⟨c2,hc2⟩:∃ c2,c2 = q.2:=⟨_,rfl⟩
    rw [← hc2] at HX' HI2 HC2 hq40 hqn
    clear HI hq HGj hO HX HOa HSj hql HI' hI2 hTq hC2 hc2
    go_wp2_with (at_builtin; refine wp_appT3 _ rfl (.tmp 33) (.tmp 35) rfl W.heap.size _ ss rfl (OwnS.below HO2.out ((Below.refl _ _).alloc (Nat.le_refl _) _) (Nat.le_refl _)) _ _ T rfl (by simp) (by omega) (by simp; omega) ?_; intro v3 w3 hown3 hg3 hv3)
    go_roundw
    case rel =>
     have hne:∀ i,some i = Value.ownBlock u8 → W.heap.size ≤ i∧i ≠ bc:=fun i e=>by have:=(HO2.out.lt i e.symm).1; omega
     have hg23:w2.grownBy w3 (Value.ownBlock u8):=gr_trans (gr_below (below_oneP w2 _) _) hg3
     refine ⟨j+1,c2,ss++[T],by omega,by go_num,by simp; omega,hq40,hqn,⟨hown3⟩,⟨HC2.out.own hg23 (fun e=>(hne bc e).2 rfl)⟩,gr_own hg02 hg23 (fun i e=>(hne i e.symm).1),HI2,HX'⟩
    case measure=>simp [intOf]; omega
  ·have hje:R = .ok (ss.map lst,c):=all_end HI.out (by omega)
   have HRe:=Box.mk hje
   have hX:=HX.out
   have hsum:sumX (ss.map lst) ≤ 40000000:=by omega
   have hflat:sumL ss ≤ 1000000000:=by have:=flat_sum (ss.map lst); unfold sumL; omega
   have HXs:Box (∀ x ∈ ss,x.size ≤ 1000000000):=⟨fun x hx=>by have:=sumX_mem ss x hx; omega⟩
   have hk0:=(hg.block w.heap.size (by omega) (by simp; omega)).trans HKW.out
   have HF0:=Box.mk (HF.out.abv (abv_gr hg0 (fun i hi e=>HSS.out i hi (Option.some.inj e))))
   obtain ⟨E,HE⟩:∃ E,Box (E = freeU (ss.map lst)):=⟨_,⟨rfl⟩⟩
   clear HI HX hX hje HP HSm IH HA HF
   go_wp2_with fail
   refine (pfree_any _ ss W.heap.size _ hO.out (by omega) HXs.out hflat HGr.out.mx HTr.out).mono ?_
   rintro e w2 ⟨EB,rfl,hEB,hb2⟩
   rw [← HE.out] at hEB
   have hEok:okBd EB.data.toList:=by rw [hEB,HE.out]; exact freeU_ok _
   have hEs:EB.size ≤ 70:=by rw [← size_list]; exact hEok.2.1
   have hk2:=(hb2.block w.heap.size (by omega)).trans hk0
   obtain ⟨x0,x1,x2,x3,xf⟩:=b4_of hk2
   have HF2:=Box.mk (HF0.out.abv (abv_below hb2))
   have HG2:=Box.mk (HGr.out.below hb2 HGr.out.gb)
   have HO2:=Box.mk (hO.out.below hb2 (Nat.le_refl _))
   have HC2:=Box.mk (hC.out.below hb2 hC.out.lt)
   have hg02:=gr_trans hg0 (gr_below hb2 _)
   have hsz2:=hb2.size
   have HEok:=Box.mk hEok
   have HEB:=Box.mk hEB
   clear HF0 HGr hO hC hk0 hEok hEB HTr hg0
   go_wp2_with fail
   refine (withoutCode_any _ lh _ HSh.out.tiny HF2.out.fl HG2.out.nm).mono ?_
   rintro e w3 ⟨v3,rfl,hO3,hb3⟩
   obtain ⟨f,q,hq1,hq2,hfm,hq4,hq5⟩:=manies_ct lh b HMn.out
   have HQ1:=Box.mk hq1
   have HQ2:=Box.mk hq2
   have HQ4:=Box.mk hq4
   have HQ5:=Box.mk hq5
   have HO3:=Box.mk hO3
   have HG3:=Box.mk (HG2.out.below hb3 HG2.out.gb)
   have hgb2:=HG2.out.gb
   have hff:=(HSh.out.2.1 f hfm).2
   have HTf:Box (Tiny (lh.filter fun f=>!isCte f)):=⟨⟨by have:=List.length_filter_le (fun f=>!isCte f) lh; have:=HSh.out.1; omega,fun g hg=>by have:=HSh.out.2.1 g (List.mem_filter.1 hg).1; omega⟩⟩
   clear hq1 hq2 hq4 hq5 hO3 HF2 x0 x1 x2 x3 xf hk2
   go_wp2_with fail
   refine (withEdge_any v3 (lh.filter fun f=>!isCte f) EB w2.heap.size _ _ f q HTf.out HO3.out hgb2 hb3.size HG3.out rfl HQ1.out HQ2.out (by omega) HQ4.out HQ5.out hEs (okBd_in HEok.out)).mono ?_
   rintro e w4 ⟨V,rfl,hV,hO4,hb4⟩
   obtain ⟨M,HM⟩:∃ M,Box (M = (lh.filter fun f=>!isCte f).set (firstP (fun f=>!isCt f) (lh.filter fun f=>!isCte f)) (f.1,V)):=⟨_,⟨rfl⟩⟩
   rw [← HM.out] at hO4
   have HMs:Box (M.map fl2 = setCT EB.data.toList (lh.map fl2)):=⟨by rw [HM.out]; exact setCT_at _ V lh _ f rfl HQ2.out hV⟩
   obtain ⟨hMid,hfw,hfb⟩:=edge_mid EB.data.toList HEok.out lh M HSh.out HRt.out _ HMn.out HMs.out
   have HMid:=Box.mk hMid
   have HFw:=Box.mk hfw
   have hb24:=hb3.trans hb4
   have HO4:=Box.mk (HO2.out.below hb24 (Nat.le_refl _))
   have HC4:=Box.mk (HC2.out.below hb24 HC2.out.lt)
   have hg04:=gr_trans hg02 (gr_below hb24 _)
   have HOM:=Box.mk hO4
   have hpl:(piecesW EB.data.toList (ss.map lst)).length ≤ 1000000000:=by have:=pieces_sum EB.data.toList HEok.out.2.1 (ss.map lst); omega
   have HPl:=Box.mk hpl
   clear hMid hfw hV hO4 HM HQ1 HQ2 HQ4 HQ5 HTf HO3 HG3 HO2 HC2 HG2 hg02 hpl HSh HRt HMn HKW
   go_wp2_with fail
   refine (pjoin_any _ ss EB W.heap.size _ HO4.out HPl.out (by omega) (by omega) HXs.out).mono ?_
   rintro e w5 ⟨J,rfl,hJ,hb5⟩
   have HOM5:=Box.mk (HOM.out.below hb5 (Nat.le_refl _))
   have hJs:J.size ≤ 1000000000:=by rw [← size_list,hJ]; exact HPl.out
   have HC5:=Box.mk (HC4.out.below hb5 HC4.out.lt)
   have hg05:=gr_trans hg04 (gr_below hb5 _)
   have HJ:=Box.mk hJ
   clear HOM HC4 hJ HO4 HXs hg04
   go_wp2_with fail
   refine (pwriteHead_any v3 M J _ HMid.out HOM5.out.fl HFw.out hJs (by omega)).mono ?_
   rintro e w6 ⟨T,rfl,hTT,hb6⟩
   have HTT:Box (T.data.toList = headW (setCT (freeU (ss.map lst)) (lh.map fl2))++piecesW (freeU (ss.map lst)) (ss.map lst)):=⟨by rw [hTT,HJ.out,← headW_map,HMs.out,HEB.out,HE.out]⟩
   have HC6:=Box.mk (HC5.out.below hb6 HC5.out.lt)
   have hg06:=gr_trans hg05 (gr_below hb6 _)
   clear hTT HJ HMs HMid HFw HOM5 HC5
   go_wp2
   go_ret2
   refine ⟨?_,hg06⟩
   rw [HRe.out]
   exact ⟨T,rfl,HTT.out,HC6.out⟩
end Go.Proofs.YtknhacbfddggpaaGreatDoor
namespace Go.Proofs.YtknhacbfddggpaaGreatDoor
open Go.RowKit
theorem may_many {L:List PB} {b:List UInt8} {n:Nat} (h:mayU L b true n = true):L.all rightB = true∧(∃ e,maniesS L = .ok (some e))∧b = []:=by
 unfold mayU at h
 simp only [Bool.and_eq_true] at h
 obtain ⟨h1,h2⟩:=h
 refine ⟨h1,?_⟩
 cases hm:maniesS L with
 | error c=>rw [hm] at h2; cases h2
 | ok o =>
  rw [hm] at h2
  simp only [Bool.and_eq_true,beq_iff_eq,if_true] at h2
  cases o with
  | none=>cases h2.1
  | some e=>exact ⟨⟨e,rfl⟩,by simpa using h2.2⟩
theorem may_one {L:List PB} {b:List UInt8} {n:Nat} (h:mayU L b false n = true):L.all rightB = true∧maniesS L = .ok none∧n = 0:=by
 unfold mayU at h
 simp only [Bool.and_eq_true] at h
 obtain ⟨h1,h2⟩:=h
 refine ⟨h1,?_⟩
 cases hm:maniesS L with
 | error c=>rw [hm] at h2; cases h2
 | ok o =>
  rw [hm] at h2
  simp only [Bool.and_eq_true,beq_iff_eq] at h2
  cases o with
  | some e=>cases h2.1
  | none=>exact ⟨rfl,by simpa using h2.2⟩
set_option maxHeartbeats 4000000 in
set_option maxRecDepth 100000 in
theorem pwrite_many (d:Nat) (ih:WrAt d) (D:Nat) (A:Option Addr) (n1 c1:Nat) (bb:ByteArray) (A2:Option Addr) (cap2:Nat) (lh:List Fl) (ps:List PT) (n bc k:Nat) (w:World) (S:Nat → Prop) (hS:∀ i,S i → i ≠ bc) (hF:FLB w S (.slice A n1 c1) lh) (hsh:ShortL lh)
  (hl:ps.length ≤ 60) (hps:∀ k (hk:k < ps.length),∃ q,PC w S A2 k q∧PV w S D q ps[k]) (hsm:∀ p ∈ ps,SmT D p) (h40:¬ 40 ≤ n) (hk:k+(d+1) = 4) (hc:CI w bc n) (hG:Glob w) (hT:Tab w) (hbc:GB bc) (hbt:3 < bc)
  (hmay:mayU (lh.map fl2) bb.data.toList true ps.length = true) :
  Calls Tryz.prog 61 #[.pointer (some ⟨bc,0,none⟩),.agg #[.slice A n1 c1,.string bb,.bool true,.slice A2 ps.length cap2],.int .i64 k] w fun e w'=>WmPost (allG (writeC d) ps (n+1)) (lh.map fl2) bc e w'∧w.grownBy w' (some bc):=by
 obtain ⟨hR,⟨b,hmn⟩,-⟩:=may_many hmay
 obtain ⟨R,HRR⟩:∃ R,Box (R = allG (writeC d) ps (n+1)):=⟨_,⟨rfl⟩⟩
 rw [← HRR.out]
 have hH:Half lh:=⟨by have:=hsh.1; omega,fun f hf=>by have:=hsh.2.1 f hf; omega⟩
 have hb0:=below_oneP w (obj4 (.slice A n1 c1) (.string bb) (.bool true) (.slice A2 ps.length cap2))
 have HC:=Box.mk (hc.below hb0 hc.lt)
 have hbl:=hc.lt
 have HG:=Box.mk (hG.below hb0 hG.gb)
 have HT:=Box.mk (hT.below hb0 hT.lt)
 have HF:=Box.mk (hF.abv (abv_below hb0))
 have HP:Box (∀ k (hk:k < ps.length),∃ q,PC (w.alloc (obj4 (.slice A n1 c1) (.string bb) (.bool true) (.slice A2 ps.length cap2))) S A2 k q∧PV (w.alloc (obj4 (.slice A n1 c1) (.string bb) (.bool true) (.slice A2 ps.length cap2))) S D q ps[k]):=⟨fun k hk=>by
  obtain ⟨q,h1,h2⟩:=hps k hk
  exact ⟨q,h1.abv (abv_below hb0),PV.abv (abv_below hb0) _ _ _ h2⟩⟩
 have HSm:=Box.mk hsm
 have HH:=Box.mk hH
 have HSh:=Box.mk hsh
 have HR:=Box.mk hR
 have HMn:=Box.mk hmn
 have HMy:=Box.mk hmay
 have IH:=Box.mk ih
 have HSS:=Box.mk hS
 clear hc hG hT hF hH hmay hps hsm hsh hR hmn ih hS
 go_enter Tryz.func61,Tryz.ntmps61
 go_wp2_with fail
 refine (begin_yes bc n k _ HC.out h40 (by omega)).mono ?_
 rintro e w1 ⟨rfl,hC1,hg1⟩
 have hsz1:=hg1.size
 have hk1:=(hg1.block w.heap.size (by simp) (by simp; omega)).trans (heap_oneP w (obj4 (.slice A n1 c1) (.string bb) (.bool true) (.slice A2 ps.length cap2)))
 obtain ⟨x0,x1,x2,x3,xf⟩:=b4_of hk1
 have HG1:=Box.mk (HG.out.gr hg1 hbc (by simp; omega))
 have HT1:=Box.mk (HT.out.gr hg1 hbt (by simp; omega))
 have hab1:=abv_gr (S:=S) hg1 (fun i hi e=>HSS.out i hi (Option.some.inj e))
 have HF1:=Box.mk (HF.out.abv hab1)
 have HP1:Box (∀ k (hk:k < ps.length),∃ q,PC w1 S A2 k q∧PV w1 S D q ps[k]):=⟨fun k hk=>by
  obtain ⟨q,h1,h2⟩:=HP.out k hk
  exact ⟨q,h1.abv hab1,PV.abv hab1 _ _ _ h2⟩⟩
 have hg01:=gr_trans (gr_below hb0 (some bc)) hg1
 have HC1:=Box.mk hC1
 clear HC HG HF HP HT hC1 hab1
 go_wp2_with fail
 refine (mayBe_any A n1 c1 bb true A2 ps.length cap2 lh _ HH.out HF1.out.fl HG1.out.mx HG1.out.nm (by omega)).mono ?_
 rintro e w2 ⟨rfl,hb2⟩
 rw [HMy.out]
 have hsz2:=hb2.size
 have hk2:=(hb2.block w.heap.size (by simp at hsz1; omega)).trans hk1
 clear x0 x1 x2 x3 xf
 obtain ⟨x0,x1,x2,x3,xf⟩:=b4_of hk2
 have HG2:=Box.mk (HG1.out.below hb2 HG1.out.gb)
 have HT2:=Box.mk (HT1.out.below hb2 HT1.out.lt)
 have HF2:=Box.mk (HF1.out.abv (abv_below hb2))
 have HC2:=Box.mk (HC1.out.below hb2 HC1.out.lt)
 have HP2:Box (∀ k (hk:k < ps.length),∃ q,PC w2 S A2 k q∧PV w2 S D q ps[k]):=⟨fun k hk=>by
  obtain ⟨q,h1,h2⟩:=HP1.out k hk
  exact ⟨q,h1.abv (abv_below hb2),PV.abv (abv_below hb2) _ _ _ h2⟩⟩
 have hg02:=gr_trans hg01 (gr_below hb2 _)
 clear HG1 HT1 HF1 HC1 HP1 hg01 hk1 HMy HH
 go_wp2_with fail
 refine (pwriteMany_any d IH.out D A n1 c1 bb A2 cap2 lh ps b (n+1) bc (k+1) _ S HSS.out HF2.out HSh.out HR.out HMn.out hl HP2.out HSm.out (by omega) (by omega) HC2.out HG2.out HT2.out hbc hbt).mono ?_
 rintro e w3 ⟨hP,hg3⟩
 have hg03:=gr_trans hg02 hg3
 clear HG2 HT2 HF2 HC2 HP2 hk2 IH
 rw [← HRR.out] at hP
 unfold WmPost at hP
 clear HRR
 cases R with
 | error c =>
  obtain rfl:=hP
  go_wp2
  go_ret2
  exact ⟨rfl,hg03⟩
 | ok r =>
  obtain ⟨T,rfl,hT,hC3⟩:=hP
  have HTT:=Box.mk hT
  have HC3:=Box.mk hC3
  clear hT hC3
  go_wp2
  go_ret2
  exact ⟨⟨T,rfl,HTT.out,HC3.out⟩,hg03⟩
theorem own_mono {w:World} {B C:Nat} {v:Value} {L:List Fl} (h:OwnF w C v L) (hB:B ≤ C):OwnF w B v L:=by
 obtain ⟨h1,h2⟩:=h
 refine ⟨h1,?_⟩
 rcases h2 with h2 | ⟨g,cap,cur,a,b,c⟩
 ·exact .inl h2
 ·exact .inr ⟨g,cap,cur,a,Nat.le_trans hB b,c⟩
theorem FL.bel {w w':World} {v:Value} {L:List Fl} (h:FL w v L) (hb:Below w.heap.size w w'):FL w' v L:=h.below hb (Nat.le_refl _)
theorem keep_two {W w':World} {p q:Addr} {u v:Value} (h0:W.cell? p = some u) (h1:W.cell? q = some v) (hb:Below W.heap.size W w'):w'.cell? p = some u∧w'.cell? q = some v∧Below W.heap.size W w':=
 ⟨(hb.cell (p:=p) (World.block_lt_of_cell? W _ h0)).trans h0,(hb.cell (p:=q) (World.block_lt_of_cell? W _ h1)).trans h1,hb⟩
theorem one_mid (how:ByteArray) (hh:how.size ≤ 16) (lh:List Fl) (hsh:ShortL lh) (hR:(lh.map fl2).all rightB = true) (hw:rightB (cteB,how.data.toList) = true):Mid ((lh.filter fun f=>!isCte f)++[(cteA,how)])∧firstW ((lh.filter fun f=>!isCte f)++[(cteA,how)]) = ((lh.filter fun f=>!isCte f)++[(cteA,how)]).length∧(fieldsB ((lh.filter fun f=>!isCte f)++[(cteA,how)])).length ≤ 1000000:=by
 have h1:=List.length_filter_le (fun f=>!isCte f) lh
 have h2:=hsh.1
 have hs:∀ f ∈ (lh.filter fun f=>!isCte f)++[(cteA,how)],f.1.size ≤ 24300∧f.2.size ≤ 24300:=by
  intro f hf
  rcases List.mem_append.1 hf with hf | hf
  ·have:=hsh.2.1 f (List.mem_filter.1 hf).1; omega
  ·rw [List.mem_singleton.1 hf]
   exact ⟨(by decide:cteA.size ≤ 24300),by simp only; omega⟩
 have hl:((lh.filter fun f=>!isCte f)++[(cteA,how)]).length ≤ 3001:=by rw [List.length_append,List.length_singleton]; omega
 refine ⟨⟨by omega,hs⟩,?_,?_⟩
 ·have h3:(((lh.filter fun f=>!isCte f)++[(cteA,how)]).map fl2).all rightB = true:=by
   rw [List.map_append,strip_filter,List.all_append,right_strip _ hR]
   have:fl2 (cteA,how) = (cteB,how.data.toList):=rfl
   simp only [List.map_cons,List.map_nil,List.all_cons,List.all_nil,this,hw,Bool.and_true]
  rw [right_first] at h3
  exact of_decide_eq_true h3
 ·have h3:=fieldsB_hsz ((lh.filter fun f=>!isCte f)++[(cteA,how)])
  rw [List.map_append,strip_filter,hsz_app] at h3
  have h4:hsz (stripH (lh.map fl2)) ≤ hsz (lh.map fl2):=hsz_filter _ _
  have h5:=hsh.2.2
  have h6:hsz ([(cteA,how)].map fl2) ≤ 25+16+2:=by
   rw [List.map_cons,List.map_nil,hsz_cons]
   have e1:(fl2 (cteA,how)).1.length = 25:=rfl
   have e2:(fl2 (cteA,how)).2.length = how.size:=size_list how
   simp only [hsz,List.map_nil,List.sum_nil]
   omega
  omega
theorem right_enc (b:List UInt8):rightB (cteB,(encU b).1) = true:=by
 have:∀ x,x = bit7 ∨ x = b64N ∨ x = qpN → rightB (cteB,x) = true:=by rintro x (rfl | rfl | rfl) <;> decide
 apply this
 unfold encU
 split
 ·exact .inl rfl
 ·split
  ·exact .inr (.inl rfl)
  ·exact .inr (.inr rfl)
set_option maxHeartbeats 8000000 in
set_option maxRecDepth 100000 in
theorem pwrite_one (A:Option Addr) (n1 c1:Nat) (bb:ByteArray) (A2:Option Addr) (n2 cap2:Nat) (lh:List Fl) (n bc k:Nat) (w:World) (S:Nat → Prop) (hS:∀ i,S i → i ≠ bc) (hF:FLB w S (.slice A n1 c1) lh) (hsh:ShortL lh) (hbs:bb.size ≤ 100000)
  (h40:¬ 40 ≤ n) (hk:¬ 4 ≤ k) (hc:CI w bc n) (hG:Glob w) (hbc:GB bc) (hn2:n2 ≤ 1000000) (hmay:mayU (lh.map fl2) bb.data.toList false n2 = true) :
  Calls Tryz.prog 61 #[.pointer (some ⟨bc,0,none⟩),.agg #[.slice A n1 c1,.string bb,.bool false,.slice A2 n2 cap2],.int .i64 k] w fun e w'=>WrPost (.ok (headW (stripH (lh.map fl2)++[(cteB,(encU bb.data.toList).1)])++(encU bb.data.toList).2,n+1)) bc e w'∧w.grownBy w' (some bc):=by
 obtain ⟨hR,-,-⟩:=may_one hmay
 have hH:Half lh:=⟨by have:=hsh.1; omega,fun f hf=>by have:=hsh.2.1 f hf; omega⟩
 have hb0:=below_oneP w (obj4 (.slice A n1 c1) (.string bb) (.bool false) (.slice A2 n2 cap2))
 have HC:=Box.mk (hc.below hb0 hc.lt)
 have hbl:=hc.lt
 have HG:=Box.mk (hG.below hb0 hG.gb)
 have HF:=Box.mk (hF.abv (abv_below hb0))
 have HH:=Box.mk hH
 have HSh:=Box.mk hsh
 have HR:=Box.mk hR
 have HMy:=Box.mk hmay
 have HSS:=Box.mk hS
 clear hc hG hF hH hmay hsh hR hS
 go_enter Tryz.func61,Tryz.ntmps61
 go_wp2_with fail
 refine (begin_yes bc n k _ HC.out h40 hk).mono ?_
 rintro e w1 ⟨rfl,hC1,hg1⟩
 have hsz1:=hg1.size
 rw [size_oneP] at hsz1
 have hk1:=(hg1.block w.heap.size (by simp) (by simp; omega)).trans (heap_oneP w (obj4 (.slice A n1 c1) (.string bb) (.bool false) (.slice A2 n2 cap2)))
 obtain ⟨x0,x1,x2,x3,xf⟩:=b4_of hk1
 have HG1:=Box.mk (HG.out.gr hg1 hbc (by simp; omega))
 have hab1:=abv_gr (S:=S) hg1 (fun i hi e=>HSS.out i hi (Option.some.inj e))
 have HF1:=Box.mk (FLB.fl (HF.out.abv hab1))
 have hg01:=gr_trans (gr_below hb0 (some bc)) hg1
 have HC1:=Box.mk hC1
 clear HC HG HF hC1 hab1
 go_wp2_with fail
 refine (mayBe_any A n1 c1 bb false A2 n2 cap2 lh _ HH.out HF1.out HG1.out.mx HG1.out.nm hn2).mono ?_
 rintro e w2 ⟨rfl,hb2⟩
 rw [HMy.out]
 have hsz2:=hb2.size
 have hk2:=(hb2.block w.heap.size (by omega)).trans hk1
 clear x0 x1 x2 x3 xf
 obtain ⟨x0,x1,x2,x3,xf⟩:=b4_of hk2
 have HG2:=Box.mk (HG1.out.below hb2 HG1.out.gb)
 have HF2:=Box.mk (HF1.out.bel hb2)
 have HC2:=Box.mk (HC1.out.below hb2 HC1.out.lt)
 have hg02:=gr_trans hg01 (gr_below hb2 _)
 clear HG1 HF1 HC1 hg01 hk1 HMy HH
 go_wp2_with fail
 refine (encode_any bb _ hbs HG2.out.mx).mono ?_
 rintro e w3 ⟨rfl,hb3⟩
 obtain ⟨how,HHow⟩:∃ how:ByteArray,Box (how = ⟨(encU bb.data.toList).1.toArray⟩):=⟨_,⟨rfl⟩⟩
 obtain ⟨beh,HBeh⟩:∃ beh:ByteArray,Box (beh = ⟨(encU bb.data.toList).2.toArray⟩):=⟨_,⟨rfl⟩⟩
 rw [← HHow.out,← HBeh.out]
 have hel:=encU_len bb.data.toList (by rw [size_list]; exact hbs)
 have hhs:how.size ≤ 16:=by rw [HHow.out,size_mk]; exact hel.1
 have hbe:beh.size ≤ 1000000000:=by rw [HBeh.out,size_mk]; omega
 obtain ⟨hMid,hfw,hfb⟩:=one_mid how hhs lh HSh.out HR.out (by rw [HHow.out]; exact right_enc _)
 have HMid:=Box.mk hMid
 have HFw:=Box.mk hfw
 have hsz3:=hb3.size
 have hszw:w.heap.size < w3.heap.size:=by omega
 have hk3:=(hb3.block w.heap.size (by omega)).trans hk2
 clear x0 x1 x2 x3 xf
 obtain ⟨x0,x1,x2,x3,xf⟩:=b4_of hk3
 have hN:=(HG2.out.below hb3 HG2.out.gb).nm
 have hnl:=hN.lt
 have HN:=Box.mk hN
 obtain ⟨n0,n1'⟩:=hN
 have HF3:=Box.mk (HF2.out.bel hb3)
 have HC3:=Box.mk (HC2.out.below hb3 HC2.out.lt)
 have hg03:=gr_trans hg02 (gr_below hb3 _)
 have HT3:=Box.mk HSh.out.tiny
 clear HG2 HF2 HC2 hg02 hMid hfw hel
 obtain ⟨M,HM⟩:∃ M,Box (M = lh.filter fun f=>!isCte f):=⟨_,⟨rfl⟩⟩
 rw [← HM.out] at HMid HFw hfb
 have hMl:M.length ≤ 100000:=by have:=HMid.out.1; rw [List.length_append] at this; omega
 go_wp2_with fail
 go_region_held3 (fun w'=>w'.cell? ⟨w.heap.size,0,none⟩ = some (.slice A n1 c1)∧w'.cell? ⟨1,1,none⟩ = some (.string cteA)∧Below w3.heap.size w3 w')
  ((go_split_ands; exact keep_two x0 n1' (by first | exact (Below.refl _ _).drew | exact Below.alloc (by assumption) (Below.size (by assumption)) _ | exact Below.trans (by assumption) (Below.mono hb5 (Below.size (by assumption))) | exact hb6 | exact Below.trans (by assumption) (Below.mono hb7 (Below.size (by assumption))))))
  (first
   | (go_at_call 102; refine (withoutCode_any _ lh _ HT3.out (FL.bel HF3.out (by first | exact (Below.refl _ _).drew | exact ((Below.refl _ _).drew.alloc (Nat.le_refl _) _))) (HN.out.below (by first | exact (Below.refl _ _).drew | exact ((Below.refl _ _).drew.alloc (Nat.le_refl _) _)) hnl)).mono ?_; rintro e w5 ⟨v5,rfl,hO5,hb5⟩)
   | (go_at_call 101; refine (pwriteHead_any v6 (M++[(cteA,how)]) beh _ HMid.out hO6.fl HFw.out hbe (by omega)).mono ?_; rintro e w7 ⟨T,rfl,hT7,hb7⟩)
   | ((refine step_appF _ w3 (by rfl) _ _ (by rfl) w3.heap.size v5 M (by rfl) (by rw [HM.out]; first | exact own_mono hO5 (by simp) | exact own_mono (OwnF.below hO5 ((Below.refl _ _).alloc (Nat.le_refl _) _) (Nat.le_refl _)) (by simp)) _ _ (cteA,how) (by rfl) (by first | (simp; done) | (rw [hb5.cell (by simp)]; simp; done)) (by first | (simp; done) | (rw [hb5.cell (by simp)]; simp; done)) (by omega) (by have:=hb5.size; simp at this ⊢; omega) (by go_split_ands; first | exact Below.alloc (by assumption) (Below.size (by assumption)) _ | assumption | exact Below.trans (by assumption) (Below.mono hb5 (Below.size (by assumption)))) ?_; intro v6 w6 hO6 hb6)))
 all_goals
  have HTT:Box (T.data.toList = headW (stripH (lh.map fl2)++[(cteB,(encU bb.data.toList).1)])++(encU bb.data.toList).2):=⟨by
   have e:(M++[(cteA,how)]).map fl2 = stripH (lh.map fl2)++[(cteB,(encU bb.data.toList).1)]:=by
    rw [List.map_append,HM.out,strip_filter,HHow.out]
    rfl
   rw [hT7,← headW_map,e,HBeh.out]⟩
  have hb37:Below w3.heap.size w3 w7:=hb6.trans (hb7.mono hb6.size)
  have HC7:=Box.mk (HC3.out.below hb37 HC3.out.lt)
  have hg07:=gr_trans hg03 (gr_below hb37 _)
  clear hT7 HMid HFw HM HHow HBeh HF3 HC3 HN HT3 HSh HR hO6
  go_wp2
  go_ret2
  exact ⟨⟨T,rfl,HTT.out,HC7.out⟩,hg07⟩
theorem SmT.short {D:Nat} {L:List PB} {b:List UInt8} {many:Bool} {ps:List PT} (h:SmT (D+1) (.mk L b many ps)) (lh:List Fl) (hl:lh.map fl2 = L):ShortL lh:=by
 obtain ⟨⟨h1,h2,h3⟩,_⟩:=h
 rw [← hl] at h1 h2 h3
 rw [List.length_map] at h1
 refine ⟨h1,fun f hf=>?_,h3⟩
 have:=h2 (fl2 f) (List.mem_map_of_mem hf)
 unfold fl2 at this
 simp only at this
 rw [size_list,size_list] at this
 exact this
theorem pwrite_step (d:Nat) (ih:WrAt d):WrAt (d+1):=by
 intro D p v n bc k w S hS hv hsm hn hk hc hG hT hbc hbt
 match D,p,hv,hsm with
 | D+1,.mk L b many ps,hv,hsm =>
  have hv0:=hv
  obtain ⟨A2,cap2,bb,lh,h1,h2,h3,h4,h5,h6,h7,h9,h10,h11⟩:=hv
  have hsh:=hsm.short lh h5
  obtain ⟨_,s3,s4,s5⟩:=hsm
  by_cases h40:40 ≤ n
  ·have e:writeC (d+1) n (.mk L b many ps) = .error 4:=by unfold writeC writeG; rw [if_pos h40]
   rw [e]
   exact pwrite_no v n bc k w hv0.shape (by omega) (by omega) (.inl h40) hc
  ·obtain ⟨v0,v1,v2,v3⟩:=v
   simp only at h1 h2 h3 h4
   subst h1 h2 h3 h5 h7
   obtain ⟨A,c1,hv0',hc1,hcell⟩:=id h4
   subst hv0'
   by_cases hmay:mayU (lh.map fl2) bb.data.toList many ps.length = false
   ·have e:writeC (d+1) n (.mk (lh.map fl2) bb.data.toList many ps) = .error 1:=by unfold writeC writeG; rw [if_neg h40,if_pos hmay]
    rw [e]
    exact pwrite_bad A lh.length c1 bb many A2 ps.length cap2 lh n bc k w S hS h6 h4 (by omega) h40 (by omega) hc hG hbc hmay
   ·have hmay':mayU (lh.map fl2) bb.data.toList many ps.length = true:=by simpa using hmay
    cases many with
    | true =>
     have e:writeC (d+1) n (.mk (lh.map fl2) bb.data.toList true ps) = match allG (writeC d) ps (n+1) with
       | .error e=>.error e
       | .ok r=>.ok (headW (setCT (freeU r.1) (lh.map fl2))++piecesW (freeU r.1) r.1,r.2):=by
      show writeG freeU (d+1) n _ = _
      rw [writeG,if_neg h40,if_neg hmay]; rfl
     rw [e]
     refine (pwrite_many d ih D A lh.length c1 bb A2 cap2 lh ps n bc k w S hS h4 hsh s4 h11 s5 h40 hk hc hG hT hbc hbt hmay').mono ?_
     rintro e w' ⟨hP,hg⟩
     refine ⟨?_,hg⟩
     cases ha:allG (writeC d) ps (n+1) with
     | error c=>rw [ha] at hP; exact hP
     | ok r=>rw [ha] at hP; exact hP
    | false =>
     have e:writeC (d+1) n (.mk (lh.map fl2) bb.data.toList false ps) = .ok (headW (stripH (lh.map fl2)++[(cteB,(encU bb.data.toList).1)])++(encU bb.data.toList).2,n+1):=by
      show writeG freeU (d+1) n _ = _
      rw [writeG,if_neg h40,if_neg hmay]; rfl
     rw [e]
     exact pwrite_one A lh.length c1 bb A2 ps.length cap2 lh n bc k w S hS h4 hsh (by rw [size_list] at s3; exact s3) h40 (by omega) hc hG hbc (by omega) hmay'
theorem pwrite_all:∀ d,WrAt d
 | 0=>fun D p v n bc k w S hS hv hsm hn hk hc hG hT hbc hbt=>by
  have e:writeC 0 n p = .error 4:=rfl
  rw [e]
  exact pwrite_no v n bc k w hv.shape (by omega) (by omega) (.inr (by omega)) hc
 | d+1=>pwrite_step d (pwrite_all d)
def WTPost (O:Except Nat (List UInt8)) (e:Ending):Prop:=
 match O with
 | .error c=>e = .returned (.tuple #[.string ⟨#[]⟩,.iface 30 (.int .i64 c)])
 | .ok t=>∃ T:ByteArray,e = .returned (.tuple #[.string T,.nilIface])∧T.data.toList = t
set_option maxHeartbeats 2000000 in
set_option maxRecDepth 100000 in
theorem pWriteTop_any (D:Nat) (p:PT) (v:P4) (w:World) (S:Nat → Prop) (hv:PV w S D v p) (hsm:SmT D p) (hG:Glob w) (hT:Tab w) :
  Calls Tryz.prog 26 #[v.v] w fun e w'=>WTPost (topW (writeC 4 0 p)) e∧Below w.heap.size w w':=by
 obtain ⟨A,n,c,bb,m,A2,n2,c2,rfl⟩:=hv.shape
 obtain ⟨O,HO⟩:∃ O,Box (O = writeC 4 0 p):=⟨_,⟨rfl⟩⟩
 rw [← HO.out]
 have hb0:=below_oneP w (obj4 (.slice A n c) (.string bb) (.bool m) (.slice A2 n2 c2))
 have hb1:=below_oneP (w.alloc (obj4 (.slice A n c) (.string bb) (.bool m) (.slice A2 n2 c2))) (.cells #[.int .i64 0] 83)
 have hb01:Below w.heap.size w _:=hb0.trans (hb1.mono (by simp))
 have hC:CI ((w.alloc (obj4 (.slice A n c) (.string bb) (.bool m) (.slice A2 n2 c2))).alloc (.cells #[.int .i64 0] 83)) (w.heap.size+1) 0:=by
  have hh:=heap_oneP (w.alloc (obj4 (.slice A n c) (.string bb) (.bool m) (.slice A2 n2 c2))) (.cells #[.int .i64 0] 83)
  rw [size_oneP] at hh
  exact ci_of hh
 have HC:=Box.mk hC
 have hgb:=hG.gb
 have htl:=hT.lt
 have HG:=Box.mk (hG.below hb01 hgb)
 have HT:=Box.mk (hT.below hb01 htl)
 have HV:Box (PV ((w.alloc (obj4 (.slice A n c) (.string bb) (.bool m) (.slice A2 n2 c2))).alloc (.cells #[.int .i64 0] 83)) (fun i=>i < w.heap.size) D (.slice A n c,.string bb,.bool m,.slice A2 n2 c2) p):=⟨PV.abv (abv_below hb01) _ _ _ (PV.mono (fun i hi _=>hi) _ _ _ hv)⟩
 have HSm:=Box.mk hsm
 clear hC hG hT hv hsm
 unfold P4.v
 go_enter Tryz.func26,Tryz.ntmps26
 go_wp2_with fail
 refine (pwrite_all 4 D p (.slice A n c,.string bb,.bool m,.slice A2 n2 c2) 0 (w.heap.size+1) 0 _ _ (fun i hi=>by have:i < w.heap.size:=hi; omega) HV.out HSm.out (by omega) (by omega) HC.out HG.out HT.out (hgb.mono (by omega)) (by omega)).mono ?_
 rintro e w1 ⟨hR,hg1⟩
 have hbb:Below w.heap.size w w1:=hb01.trans (below_gr hg1 (by omega) (by simp))
 clear HC HG HT HV
 rw [← HO.out] at hR
 unfold WrPost at hR
 cases O with
 | error c =>
  obtain rfl:=hR
  clear HO
  go_wp2
  go_ret2
  exact ⟨rfl,hbb⟩
 | ok q =>
  obtain ⟨T,rfl,hTq,_⟩:=hR
  have hl:=writeC_len 4 D 0 p q HSm.out HO.out.symm
  have hts:T.size = q.1.length:=by rw [← size_list,hTq]
  have hts2:T.size ≤ 1000000000:=by omega
  clear HO
  by_cases h2:20000 < T.size
  ·have HQ:Box (topW (.ok q) = .error 4):=⟨by unfold topW; simp only; rw [if_pos (by omega)]⟩
   clear hl hts hTq
   go_wp2
   go_ret2
   exact ⟨by rw [HQ.out]; rfl,hbb⟩
  ·have HQ:Box (topW (.ok q) = .ok q.1):=⟨by unfold topW; simp only; rw [if_neg (by omega)]⟩
   have HTq:=Box.mk hTq
   clear hl hts hTq
   go_wp2
   go_ret2
   exact ⟨by rw [HQ.out]; exact ⟨T,rfl,HTq.out⟩,hbb⟩
end Go.Proofs.YtknhacbfddggpaaGreatDoor
namespace Go.Proofs.YtknhacbfddggpaaGreatDoor
open Go.RowKit
theorem joinStep_len {q q':List UInt8 × Nat × Nat} {c:UInt8} (h:Tx.joinStep q c = some q'):q'.1.length ≤ q.1.length+1:=by
 unfold Tx.joinStep at h
 split at h
 ·cases h
 ·split at h
  ·cases h; simp
  ·cases h; simp
theorem joinAll_len (l:List UInt8):∀ q,Tx.joinAll l = some q → q.1.length ≤ l.length:=by
 intro q
 have key:∀ (n:Nat) (l:List UInt8),l.length = n → ∀ q,Tx.joinAll l = some q → q.1.length ≤ l.length:=by
  intro n
  induction n with
  | zero =>
   intro l hl q h
   have:l = []:=List.eq_nil_of_length_eq_zero hl
   subst this
   cases h; simp
  | succ n ih =>
   intro l hl q h
   rcases List.eq_nil_or_concat l with rfl | ⟨m,c,rfl⟩
   ·simp at hl
   ·rw [List.concat_eq_append] at h hl ⊢
    rw [Tx.joinAll_snoc] at h
    obtain ⟨r,hr,hs⟩:=Option.bind_eq_some_iff.1 h
    have h1:=ih m (by simpa using hl) r hr
    have h2:=joinStep_len hs
    simp; omega
 exact key l.length l rfl q
theorem unpackS_len (l b:List UInt8) (h:Tx.unpackS l = some b):b.length ≤ l.length:=by
 unfold Tx.unpackS at h
 split at h
 ·unfold Tx.joinedS at h
  obtain ⟨q,hq,h2⟩:=Option.bind_eq_some_iff.1 h
  have h1:=joinAll_len _ q hq
  have h3:=Tx.solidL_length l
  rw [List.length_take] at h1
  split at h2
  ·cases h2; omega
  ·cases h2
 ·cases h
theorem lineOf_len (a:List UInt8):(Tx.lineOf a).length ≤ a.length:=by
 unfold Tx.lineOf
 have h1:(Lib.trimRightS a [32,9]).length ≤ a.length:=by
  unfold Lib.trimRightS
  rw [List.length_reverse]
  have:=xwhile_len (fun c=>[32,9].contains c) a.reverse
  rw [List.length_reverse] at this
  omega
 have h2:(Lib.trimSuffix (Lib.trimRightS a [32,9]) [61]).length ≤ (Lib.trimRightS a [32,9]).length:=by
  unfold Lib.trimSuffix
  split
  ·rw [List.length_take]; omega
  ·exact Nat.le_refl _
 omega
theorem uqLoop_len:∀ (f:Nat) (s out o:List UInt8),Tx.uqLoop f s out = some o → o.length ≤ out.length+s.length
 | 0,s,out,o,h=>by cases h
 | f+1,s,out,o,h=>by
  unfold Tx.uqLoop at h
  obtain ⟨b,hb,h2⟩:=Option.bind_eq_some_iff.1 h
  have h3:=Tx.unquotedS_len _ b hb
  have h4:=lineOf_len (Lib.cut s [13,10]).1
  rcases cut_parts s [13,10] with ⟨hc,hl⟩ | ⟨hc,h5,h6⟩
  ·rw [hc] at h2
   simp only [if_true] at h2
   have h7:=uqLoop_len f _ _ o h2
   have h8:(if Tx.goesOn (Lib.cut s [13,10]).1 then ([]:List UInt8) else [13,10]).length ≤ 2:=by split <;> simp
   rw [List.length_append,List.length_append] at h7
   simp only [List.length_cons,List.length_nil] at hl
   omega
  ·rw [hc] at h2
   simp only [Bool.false_eq_true,if_false,Option.some.injEq] at h2
   rw [← h2,List.length_append]
   rw [h5] at h4 h3
   omega
theorem unquoteS_len (l b:List UInt8) (h:Tx.unquoteS l = some b):b.length ≤ l.length:=by
 have:=uqLoop_len _ l [] b h
 simpa using this
theorem decodeU_len (L:List PB) (s b:List UInt8) (h:decodeU L s = .ok b):b.length ≤ s.length:=by
 unfold decodeU at h
 have h1:∀ o,someOr 3 o = .ok b → o = some b:=by
  intro o ho
  cases o with
  | none=>cases ho
  | some x=>cases ho; rfl
 repeat' split at h
 all_goals first
  | (cases h; exact Nat.le_refl _)
  | (exact unpackS_len _ _ (h1 _ h))
  | (exact unquoteS_len _ _ (h1 _ h))
  | (cases h; done)
theorem hsz_tot (M:List FB):hsz (M.map fun f=>(f.1,trimS f.2)) ≤ totB M+2 * M.length:=by
 induction M with
 | nil=>simp [hsz,totB]
 | cons f M ih =>
  have e:totB (f :: M) = f.1.length+f.2.length+totB M:=by simp [totB]
  rw [List.map_cons,hsz_cons,e,List.length_cons]
  have:=trimS_len f.2
  simp only
  omega
theorem headR_hsz (s:List UInt8) (h:List PB × List UInt8) (e:headR s = .ok h):hsz h.1 ≤ 3 * s.length:=by
 unfold headR at e
 have hf:=hl_flat _ s (Nat.le_refl _)
 have hn:=count_flatB _ (hl_some _ s (Nat.le_refl _))
 cases hr:refRun (hl s).1 0 [] with
 | error n=>rw [hr] at e; cases e
 | ok M =>
  rw [hr] at e
  have ht:=refRun_tot _ _ _ _ hr
  rw [show totB [] = 0 from rfl,List.length_nil] at ht
  simp only at e
  split at e
  ·obtain rfl:=(Except.ok.inj e).symm
   have:=hsz_tot M
   simp only
   omega
  ·cases e
theorem all_count {f:Nat → List UInt8 → Except Nat (PT × Nat)} (hf:∀ n s q,f n s = .ok q → n+1 ≤ q.2):∀ (xs:List (List UInt8)) (n:Nat) (r:List PT × Nat),allG f xs n = .ok r → n+r.1.length ≤ r.2
 | [],n,r,h=>by cases h; simp
 | x :: xs,n,r,h=>by
  obtain ⟨y,k,zs,h1,h2,h3⟩:=allG_ok _ _ _ _ _ _ (show allG f (x :: xs) n = .ok (r.1,r.2) from h)
  have a:=hf n x (y,k) h1
  have b:=all_count hf xs k (zs,r.2) h2
  rw [h3,List.length_cons]
  simp only at a b
  omega
theorem readU_more:∀ (d n:Nat) (s:List UInt8) (q:PT × Nat),readU d n s = .ok q → n+1 ≤ q.2
 | 0,n,s,q,h=>by cases h
 | d+1,n,s,q,h=>by
  unfold readU at h
  split at h
  ·cases h
  ·cases h1:headR s with
   | error c=>rw [h1] at h; cases h
   | ok hh =>
    rw [h1] at h
    simp only at h
    cases h2:maniesS hh.1 with
    | error c=>rw [h2] at h; cases h
    | ok o =>
     rw [h2] at h
     cases o with
     | none =>
      simp only at h
      cases h3:decodeU hh.1 hh.2 with
      | error c=>rw [h3] at h; cases h
      | ok b=>rw [h3] at h; cases h; exact Nat.le_refl _
     | some b =>
      simp only at h
      cases h3:betweenS b hh.2 with
      | none=>rw [h3] at h; cases h
      | some xs =>
       rw [h3] at h
       simp only at h
       cases h4:allG (readU d) xs (n+1) with
       | error c=>rw [h4] at h; cases h
       | ok r =>
        rw [h4] at h
        cases h
        have:=all_count (readU_more d) xs (n+1) r h4
        simp only
        omega
theorem readU_sm:∀ (d n:Nat) (s:List UInt8) (q:PT × Nat),readU d n s = .ok q → n ≤ 40 → s.length ≤ 2500 → Sm1 d q.1
 | 0,n,s,q,h,_,_=>by cases h
 | d+1,n,s,q,h,hn,hs=>by
  have hcnt:=readU_cnt (d+1) n s q h hn
  unfold readU at h
  split at h
  ·cases h
  ·cases h1:headR s with
   | error c=>rw [h1] at h; cases h
   | ok hh =>
    rw [h1] at h
    simp only at h
    obtain ⟨l1,l2,l3⟩:=headR_len s hh h1
    have l4:=headR_hsz s hh h1
    have hhd:hh.1.length ≤ 2990∧(∀ f ∈ hh.1,f.1.length ≤ 2500∧f.2.length ≤ 2500)∧hsz hh.1 ≤ 9000:=⟨by omega,fun f hf=>by have:=l2 f hf; omega,by omega⟩
    cases h2:maniesS hh.1 with
    | error c=>rw [h2] at h; cases h
    | ok o =>
     rw [h2] at h
     cases o with
     | none =>
      simp only at h
      cases h3:decodeU hh.1 hh.2 with
      | error c=>rw [h3] at h; cases h
      | ok b =>
       rw [h3] at h
       cases h
       have:=decodeU_len _ _ _ h3
       exact ⟨hhd,by omega,by simp,fun p hp=>by cases hp⟩
     | some b =>
      simp only at h
      cases h3:betweenS b hh.2 with
      | none=>rw [h3] at h; cases h
      | some xs =>
       rw [h3] at h
       simp only at h
       have hx:=between_len _ _ _ h3
       cases h4:allG (readU d) xs (n+1) with
       | error c=>rw [h4] at h; cases h
       | ok r =>
        rw [h4] at h
        cases h
        have hc:=all_count (readU_more d) xs (n+1) r h4
        have hall:∀ (xs:List (List UInt8)) (n:Nat) (r:List PT × Nat),(∀ x ∈ xs,x.length ≤ 2500) → allG (readU d) xs n = .ok r → r.2 ≤ 40 → n ≤ 40 → ∀ p ∈ r.1,Sm1 d p:=by
         intro xs
         induction xs with
         | nil=>intro n r _ h _ _ p hp; cases h; cases hp
         | cons x xs ihx =>
          intro n r hl h hr hn p hp
          obtain ⟨y,k,zs,h1,h2,h3⟩:=allG_ok _ _ _ _ _ _ (show allG (readU d) (x :: xs) n = .ok (r.1,r.2) from h)
          have a:=readU_cnt d n x (y,k) h1 hn
          rw [h3] at hp
          rcases List.mem_cons.1 hp with rfl | hp
          ·exact readU_sm d n x (p,k) h1 hn (hl x (by simp))
          ·exact ihx k (zs,r.2) (fun z hz=>hl z (by simp [hz])) h2 hr a p hp
        simp only at hcnt
        exact ⟨hhd,by simp,by omega,hall xs (n+1) r (fun x hx'=>by have:=hx x hx'; omega) h4 hcnt (by omega)⟩
theorem same_small {O O':Except Nat (List UInt8 × Nat)} {t:List UInt8} {n:Nat} (h:SameO O O') (ho:O' = .ok (t,n)) (ht:t.length ≤ 20000):O = .ok (t,n):=by
 subst ho
 cases O with
 | error c=>exact (h:False).elim
 | ok q =>
  obtain ⟨h1,h2⟩:=(h:q.2 = n∧SameW q.1 t)
  rcases h2 with h2 | ⟨_,h2⟩
  ·obtain ⟨a,b⟩:=q
   simp only at h1 h2
   rw [h1,h2]
  ·simp only at h2; omega
theorem same_small' {O O':Except Nat (List UInt8 × Nat)} {t:List UInt8} {n:Nat} (h:SameO O O') (ho:O = .ok (t,n)) (ht:t.length ≤ 20000):O' = .ok (t,n):=by
 subst ho
 cases O' with
 | error c=>exact (h:False).elim
 | ok q =>
  obtain ⟨h1,h2⟩:=(h:n = q.2∧SameW t q.1)
  rcases h2 with h2 | ⟨h2,_⟩
  ·obtain ⟨a,b⟩:=q
   simp only at h1 h2
   rw [h1,h2]
  ·simp only at h2; omega
theorem top_sm (s:List UInt8) (q:PT) (h:readTop s = .ok q) (hs:s.length ≤ 2500):Sm1 4 q:=by
 unfold readTop at h
 split at h
 ·cases h
 ·cases hr:readU 4 0 s with
  | error c=>rw [hr] at h; cases h
  | ok r =>
   rw [hr] at h
   cases h
   exact readU_sm 4 0 s r hr (by omega) hs
end Go.Proofs.YtknhacbfddggpaaGreatDoor
