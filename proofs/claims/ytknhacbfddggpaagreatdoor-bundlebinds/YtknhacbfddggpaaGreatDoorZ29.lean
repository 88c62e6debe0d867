import Derived.Test.YtknhacbfddggpaaGreatDoorZ26
import Derived.Test.YtknhacbfddggpaaGreatDoorZ19
import Derived.Test.YtknhacbfddggpaaGreatDoorZShelfW
namespace Go.Proofs.YtknhacbfddggpaaGreatDoor
open Go.RowKit
set_option maxHeartbeats 1000000 in
theorem withoutCode_any (v:Value) (L:List Fl) (w:World) (hT:Tiny L) (hF:FL w v L) (hN:Names w) :
  Calls Tryz.prog 102 #[v] w fun e w'=>∃ v',e = .returned v'∧OwnF w' w.heap.size v' (L.filter fun f=>!isCte f)∧Below w.heap.size w w':=by
 have HT:=Box.mk hT
 have HF:=Box.mk hF
 have HN:=Box.mk hN
 clear hT hF hN
 go_enter Tryz.func102,Tryz.ntmps102
 go_wp2_with fail
 refine (clone_any v L _ HT.out HF.out).mono ?_
 rintro e w1 ⟨v1,rfl,hO1,hb1⟩
 have HO1:=Box.mk hO1
 have HN1:=Box.mk (HN.out.below hb1 HN.out.lt)
 have hlt:=HN.out.lt
 clear HF HN hO1
 go_wp2_with fail
 refine (delete_any v1 L w.heap.size _ HT.out HO1.out hlt hb1.size HN1.out).mono ?_
 rintro e w2 ⟨v2,rfl,hO2,hb2⟩
 go_wp2
 go_ret
 exact ⟨_,rfl,hO2,hb1.trans hb2⟩
theorem strip_filter (L:List Fl):(L.filter fun f=>!isCte f).map fl2 = stripH (L.map fl2):=by
 unfold stripH
 rw [List.filter_map]
 rfl
theorem setP_at (edge:ByteArray):∀ (Lq:List Fl) (k:Nat) (f:Fl),k = firstP (fun f=>!isBd f) Lq → Lq[k]? = some f → (Lq.set k (f.1,edge)).map pb2 = setP edge.data.toList (Lq.map pb2)
 | [],k,f,_,h=>by simp at h
 | a :: Lq,k,f,hk,h=>by
  unfold firstP at hk
  rw [List.takeWhile_cons] at hk
  have hb:isBd a = decide ((pb2 a).1 = bdN):=rfl
  cases hp:isBd a with
  | true =>
   rw [hp] at hk
   obtain rfl:k = 0:=by simpa using hk
   obtain rfl:a = f:=by simpa using h
   rw [hp] at hb
   have hb':=of_decide_eq_true hb.symm
   simp only [List.set_cons_zero,List.map_cons,setP]
   rw [if_pos hb']
   rfl
  | false =>
   rw [hp] at hk
   obtain ⟨k',rfl⟩:∃ k',k = k'+1:=⟨(Lq.takeWhile (fun f=>!isBd f)).length,by simpa using hk⟩
   rw [hp] at hb
   have hb':=of_decide_eq_false hb.symm
   have ih:=setP_at edge Lq k' f (by unfold firstP; simpa using hk) (by simpa using h)
   simp only [List.set_cons_succ,List.map_cons,setP]
   rw [if_neg hb',ih]
theorem setCT_at (bd:List UInt8) (S:ByteArray):∀ (L:List Fl) (r:Nat) (f:Fl),r = firstP (fun f=>!isCt f) (L.filter fun f=>!isCte f) → (L.filter fun f=>!isCte f)[r]? = some f → S.data.toList = newVal bd f.2.data.toList → ((L.filter fun f=>!isCte f).set r (f.1,S)).map fl2 = setCT bd (L.map fl2)
 | [],r,f,_,h,_=>by simp at h
 | a :: L,r,f,hr,h,hS=>by
  rw [List.map_cons,setCT_cons]
  have hc:isCte a = decide (smallS (fl2 a).1 = cteN):=rfl
  cases hp:isCte a with
  | true =>
   rw [hp] at hc
   rw [if_pos (of_decide_eq_true hc.symm)]
   rw [List.filter_cons,hp] at hr h ⊢
   exact setCT_at bd S L r f hr h hS
  | false =>
   rw [hp] at hc
   rw [if_neg (of_decide_eq_false hc.symm)]
   rw [List.filter_cons,hp] at hr h ⊢
   simp only [Bool.not_false,if_true] at hr h ⊢
   unfold firstP at hr
   rw [List.takeWhile_cons] at hr
   have ht:isCt a = decide (smallS (fl2 a).1 = ctN):=rfl
   cases hq:isCt a with
   | true =>
    rw [hq] at ht hr
    obtain rfl:r = 0:=by simpa using hr
    obtain rfl:a = f:=by simpa using h
    rw [if_pos (of_decide_eq_true ht.symm),List.set_cons_zero,List.map_cons,strip_filter]
    congr 1
    show (a.1.data.toList,S.data.toList) = _
    rw [hS]; rfl
   | false =>
    rw [hq] at ht hr
    rw [if_neg (of_decide_eq_false ht.symm)]
    obtain ⟨r',rfl⟩:∃ r',r = r'+1:=⟨((L.filter fun f=>!isCte f).takeWhile (fun f=>!isCt f)).length,by simpa using hr⟩
    rw [List.set_cons_succ,List.map_cons,setCT_at bd S L r' f (by unfold firstP; simpa using hr) (by simpa using h) hS]
set_option maxHeartbeats 2000000 in
set_option maxRecDepth 100000 in
theorem withEdge_any (v:Value) (L:List Fl) (edge:ByteArray) (B:Nat) (w:World) (r:Nat) (f:Fl) (q:List UInt8 × List PB) (hT:Tiny L) (hO:OwnF w B v L) (hB:GB B) (hBw:B ≤ w.heap.size) (hG:Glob w)
  (hr:r = firstP (fun f=>!isCt f) L) (hrl:r < L.length) (hf:L[r]? = some f) (hfs:f.2.size ≤ 8000) (hq:readK f.2.data.toList = some q) (hbd:∃ p ∈ q.2,p.1 = bdN) (he:edge.size ≤ 70) (hei:edge.data.toList.all inC = true) :
  Calls Tryz.prog 146 #[v,.string edge] w fun e w'=>∃ S:ByteArray,e = .returned (.tuple #[v,.nilIface])∧S.data.toList = newVal edge.data.toList f.2.data.toList∧OwnF w' B v (L.set r (f.1,S))∧Below B w w':=by
 rcases hO.shape with ⟨_,hL⟩ | ⟨g,cap,hv,hBg,hgw,hcap⟩
 ·rw [hL] at hrl; exact absurd hrl (by simp)
 subst hv
 have HT:=Box.mk hT
 have HO:=Box.mk hO
 have HG:=Box.mk hG
 have HR:=Box.mk hr
 have HQ:=Box.mk hq
 have HBD:=Box.mk hbd
 have hlen:=hT.1
 have hfe:L[r] = f:=by rw [List.getElem?_eq_getElem hrl] at hf; exact Option.some.inj hf
 obtain ⟨fn,fv⟩:=f
 simp only at hfs hq hf
 have HF:=Box.mk hf
 have HFE:=Box.mk hfe
 clear hT hO hG hr hq hbd hf hfe
 go_enter Tryz.func146,Tryz.ntmps146
 go_wp2_with fail
 refine (idxType_any _ L _ HT.out HO.out.fl HG.out.nm).mono ?_
 rintro e w1 ⟨hI,hb1⟩
 rw [← HR.out] at hI
 rcases hI with ⟨_,rfl⟩ | ⟨hI,_⟩
 ·have HO1:=Box.mk (HO.out.below hb1 (Nat.le_refl _))
  have HG1:=Box.mk (HG.out.below hb1 (hB.mono hBw))
  have hc1:=HO1.out.cell r hrl
  rw [HFE.out] at hc1
  obtain ⟨d0,d1,d2⟩:=hc1
  simp only at d0 d1
  clear HO
  go_wp2_with fail
  refine (kread_any fv _ (by omega) HG1.out.mx).mono ?_
  rintro e w2 ⟨hP,hb2⟩
  unfold RPost at hP
  rw [HQ.out] at hP
  obtain ⟨m,vq,Lq,rfl,hm,hownQ,hLq,hms,hLs,hfsz⟩:=hP
  have HO2:=Box.mk (HO1.out.below hb2 (Nat.le_refl _))
  have HG2:=Box.mk (HG1.out.below hb2 (hB.mono (Nat.le_trans hBw hb1.size)))
  have HTq:Box (Tiny Lq):=⟨⟨by omega,fun x hx=>by have:=hfsz x hx; omega⟩⟩
  have HSz:=Box.mk hfsz
  have HOq:=Box.mk hownQ
  have HLq:=Box.mk hLq
  have HMm:=Box.mk hm
  clear HO1 HG1 hfsz hownQ hLq hm d0 d1 d2
  go_wp2_with fail
  refine (idxBound_any vq Lq _ HTq.out HOq.out.fl).mono ?_
  rintro e w3 ⟨hI3,hb3⟩
  have hkb:firstP (fun f=>!isBd f) Lq < Lq.length:=by
   rcases hI3 with ⟨h,_⟩ | ⟨h,_⟩
   ·exact h
   ·exfalso
    obtain ⟨p,hp,hpb⟩:=HBD.out
    rw [← HLq.out] at hp
    obtain ⟨x,hx,rfl⟩:=List.mem_map.1 hp
    have h1:=filter_first _ Lq h
    have h2:=List.filter_eq_self.1 h1 x hx
    have h3:isBd x = true:=decide_eq_true hpb
    rw [h3] at h2
    cases h2
  rcases hI3 with ⟨_,rfl⟩ | ⟨hI3,_⟩
  ·obtain ⟨k,HK⟩:∃ k,Box (k = firstP (fun f=>!isBd f) Lq):=⟨_,⟨rfl⟩⟩
   rw [← HK.out] at hkb ⊢
   have HO3:=Box.mk (HO2.out.below hb3 (Nat.le_refl _))
   have HOq3:=Box.mk (HOq.out.below hb3 (Nat.le_refl _))
   have HG3:=Box.mk (HG2.out.below hb3 (hB.mono (Nat.le_trans (Nat.le_trans hBw hb1.size) hb2.size)))
   rcases HOq3.out.shape with ⟨_,hL⟩ | ⟨gq,capq,hvq,hBq,hgq,hcapq⟩
   ·rw [hL] at hkb; exact absurd hkb (by simp)
   subst hvq
   obtain ⟨c0,c1,c2⟩:=HOq3.out.cell k hkb
   have hgg:g < gq:=by
    have h1:=hb1.size
    have h2:w1.heap.size ≤ gq:=hBq
    omega
   have hgs:=gr_set w3 gq (k * 2+1) (.string edge)
   have HO4:Box (OwnF (w3.setCell ⟨gq,k * 2+1,none⟩ (.string edge)) B (.slice (some ⟨g,0,none⟩) L.length cap) L):=⟨World.ownsRow.kept HO3.out hgs (.inr (by simp [Value.ownBlock]; omega))⟩
   have HQ4:=Box.mk (HOq3.out.set k hkb edge)
   have hb03:Below B w w3:=((hb1.mono hBw).trans (hb2.mono (Nat.le_trans hBw hb1.size))).trans (hb3.mono (Nat.le_trans (Nat.le_trans hBw hb1.size) hb2.size))
   have hb04:Below B w (w3.setCell ⟨gq,k * 2+1,none⟩ (.string edge)):=Below.setCell hb03 (show B ≤ gq by omega) _
   have HG4:=Box.mk (Glob.below HG.out hb04 hB)
   have hgd:=kind_good fv.data.toList q.1 q.2 HQ.out
   unfold goodK at hgd
   simp only [Bool.and_eq_true] at hgd
   have hset:=setP_at edge Lq k Lq[k] HK.out (List.getElem?_eq_getElem hkb)
   rw [HLq.out] at hset
   have hgoodL:(Lq.set k (Lq[k].1,edge)).all goodF = true:=by
    have:=setP_good edge.data.toList hei q.2 hgd.2
    rw [← hset,List.all_map] at this
    exact this
   have HNV:Box (newVal edge.data.toList fv.data.toList = writeK m.data.toList ((Lq.set k (Lq[k].1,edge)).map pb2)):=⟨by rw [newVal_at _ _ q.1 q.2 HQ.out,HMm.out,hset]⟩
   have HGM:Box (goodM m.data.toList = true):=⟨by rw [HMm.out]; exact hgd.1⟩
   have HMid:Box (Mid (Lq.set k (Lq[k].1,edge))):=⟨⟨by rw [List.length_set]; omega,fun x hx=>by
    rcases List.mem_or_eq_of_mem_set hx with hx | rfl
    ·have:=HSz.out x hx; omega
    ·have:=HSz.out Lq[k] (List.getElem_mem hkb); simp only; omega⟩⟩
   have HGL:=Box.mk hgoodL
   clear hgd hset hgoodL HO3 HOq3 HG3 HO2 HG2 HOq hgs HBD HQ
   go_wp2_with fail
   refine (kwrite_any m _ (Lq.set k (Lq[k].1,edge)) _ (by omega) HMid.out HQ4.out.fl HG4.out.mx).mono ?_
   rintro e w5 ⟨hW,hb5⟩
   rcases hW with ⟨h,_⟩ | ⟨_,h,_⟩ | ⟨_,_,t,rfl,ht⟩
   ·rw [HGM.out] at h; cases h
   ·exfalso
    have:firstQ (Lq.set k (Lq[k].1,edge)) = (Lq.set k (Lq[k].1,edge)).length:=firstP_full goodF _ HGL.out
    omega
   ·have HO5:=Box.mk (HO4.out.below hb5 (Nat.le_refl _))
    obtain ⟨x0,x1,x2⟩:=HO5.out.cell r hrl
    have HO6:=HO5.out.set r hrl t
    rw [HFE.out] at HO6
    have HT6:Box (t.data.toList = newVal edge.data.toList fv.data.toList):=⟨by rw [ht,HNV.out]⟩
    have hb05:Below B w w5:=hb04.trans (hb5.mono (by simp; have:=hb03.size; omega))
    clear ht HNV HGM HGL HMid HQ4 HO4 HG4 hb5
    go_wp2
    go_ret2
    exact ⟨t,rfl,HT6.out,HO6,Below.setCell hb05 (by exact hBg) _⟩
  ·omega
 ·omega
end Go.Proofs.YtknhacbfddggpaaGreatDoor
namespace Go.Proofs.YtknhacbfddggpaaGreatDoor
open Go.RowKit
theorem cells_snoc (l:List UInt8) (s:ByteArray):Lib.byteCells l++Lib.strCells s = Lib.byteCells (l++s.data.toList):=by
 simp [Lib.byteCells,Lib.strCells]
theorem OwnS.at {w wr:World} {B:Nat} {A:Option Addr} {n cap:Nat} {ss:List ByteArray} (h:OwnS w B (.slice A n cap) ss) (hb:Below w.heap.size w wr) (k:Nat) (x:ByteArray) (hk:ss[k]? = some x):∃ g,A = some ⟨g,0,none⟩∧g < w.heap.size∧wr.cell? ⟨g,k,none⟩ = some (.string x):=by
 obtain ⟨hkl,he⟩:=List.getElem?_eq_some_iff.1 hk
 rcases h.shape with ⟨_,h2⟩ | ⟨g,cap',h1,_,hg,_,_,h5⟩
 ·rw [h2] at hkl; exact absurd hkl (by simp)
 ·simp only [Value.slice.injEq] at h1
  refine ⟨g,h1.1,hg,?_⟩
  rw [hb.cell (p:=⟨g,k,none⟩) hg,h5 k hkl,he]
theorem OwnS.len {w:World} {B:Nat} {A:Option Addr} {n cap:Nat} {ss:List ByteArray} (h:OwnS w B (.slice A n cap) ss):n = ss.length:=by
 rcases h.shape with ⟨h1,h2⟩ | ⟨g,cap',h1,_⟩
 ·simp only [Value.slice.injEq] at h1; rw [h2]; exact h1.2.1
 ·simp only [Value.slice.injEq] at h1; exact h1.2.1
theorem OwnS.slice {w:World} {B:Nat} {v:Value} {ss:List ByteArray} (h:OwnS w B v ss):∃ A n cap,v = .slice A n cap:=by
 rcases h.shape with ⟨rfl,_⟩ | ⟨g,cap,rfl,_⟩
 ·exact ⟨_,_,_,rfl⟩
 ·exact ⟨_,_,_,rfl⟩
theorem pieces_len (b:List UInt8) (ss:List ByteArray) (k:Nat):(((ss.map lst).take k).flatMap (pieceW b)).length ≤ ((ss.map lst).flatMap (pieceW b)).length:=by
 conv=>rhs; rw [← List.take_append_drop k (ss.map lst),List.flatMap_append,List.length_append]
 omega
set_option maxHeartbeats 2000000 in
set_option maxRecDepth 100000 in
theorem pjoin_any (v:Value) (ss:List ByteArray) (edge:ByteArray) (B:Nat) (w:World) (hO:OwnS w B v ss) (hl:(piecesW edge.data.toList (ss.map lst)).length ≤ 1000000000) (hn:ss.length ≤ 1000000) (he:edge.size ≤ 100000) (hx:∀ x ∈ ss,x.size ≤ 1000000000) :
  Calls Tryz.prog 147 #[v,.string edge] w fun e w'=>∃ S:ByteArray,e = .returned (.string S)∧S.data.toList = piecesW edge.data.toList (ss.map lst)∧Below w.heap.size w w':=by
 obtain ⟨A,n,cap,hv⟩:=hO.slice
 subst hv
 have hnl:=hO.len
 have hn1:n ≤ ss.length:=Nat.le_of_eq hnl
 have hn2:ss.length ≤ n:=Nat.le_of_eq hnl.symm
 have HO:=Box.mk hO
 have HX:=Box.mk hx
 have HL:=Box.mk hl
 have h0:=heap_oneP w (.cells #[.pointer none,.slice none 0 0] 153)
 have HB0:Box (Lib.IsBuilder 153 5 w.heap.size w.heap.size (Lib.byteCells []) (w.alloc (.cells #[.pointer none,.slice none 0 0] 153))):=⟨.inl ⟨Nat.le_refl _,_,h0,World.ownsRow_nil _ _ _ _,by simp [Value.ownBlock]⟩⟩
 have hb0:=below_oneP w (.cells #[.pointer none,.slice none 0 0] 153)
 clear hO hnl hx hl h0
 go_enter Tryz.func147,Tryz.ntmps147
 go_wp2
 go_loopw [10] (fun i wr=>∃ k:Nat,k ≤ n∧i = .int .i64 k∧Below w.heap.size w wr∧Box (Lib.IsBuilder 153 5 w.heap.size w.heap.size (Lib.byteCells (((ss.map lst).take k).flatMap (pieceW edge.data.toList))) wr)) (fun i _=>n - (intOf i).toNat)
 case atStart=>exact ⟨0,Nat.zero_le _,rfl,hb0,HB0⟩
 case round =>
  obtain ⟨k,hk,rfl,hb,HB⟩:=hrel
  have hsz:=hb.size
  by_cases hlt:k < n
  ·have hkl:k < ss.length:=by omega
   obtain ⟨x,HXk⟩:∃ x,Box (ss[k]? = some x):=⟨_,⟨List.getElem?_eq_getElem hkl⟩⟩
   obtain ⟨g,hA,hg,hc⟩:=HO.out.at hb k x HXk.out
   subst hA
   have hxs:=HX.out x (List.mem_of_getElem? HXk.out)
   obtain ⟨P,HP⟩:∃ P:ByteArray,Box (P = ((⟨#[45,45]⟩++edge)++⟨#[13,10]⟩++x)++⟨#[13,10]⟩):=⟨_,⟨rfl⟩⟩
   have HPl:Box (P.data.toList = pieceW edge.data.toList x.data.toList):=⟨by rw [HP.out]; simp [pieceW,lead]⟩
   have hps:P.size ≤ 1000100010:=by
    rw [← size_list,HPl.out]
    simp [pieceW,lead]
    omega
   have hs1:¬ 9223372036854775807 < 2+edge.size:=by omega
   have hs2:¬ 9223372036854775807 < 2+edge.size+2:=by omega
   have hs3:¬ 9223372036854775807 < 2+edge.size+2+x.size:=by omega
   have hs4:¬ 9223372036854775807 < 2+edge.size+2+x.size+2:=by omega
   have HBl:Box ((Lib.byteCells (((ss.map lst).take k).flatMap (pieceW edge.data.toList))).length ≤ 1000000000):=⟨by
    have h1:=pieces_len edge.data.toList ss k
    have h2:=HL.out
    unfold piecesW at h2
    rw [List.length_append,List.length_append] at h2
    simp only [Lib.byteCells,List.length_map]
    omega⟩
   have HN:Box (((ss.map lst).take (k+1)).flatMap (pieceW edge.data.toList) = ((ss.map lst).take k).flatMap (pieceW edge.data.toList)++P.data.toList):=⟨by
    rw [List.take_add_one,List.getElem?_map,HXk.out,List.flatMap_append,HPl.out]
    simp [lst]⟩
   clear HXk hkl HX HO HB0
   go_wp2_with fail
   rw [← HP.out]
   refine (Tryz.Builder_WriteString w.heap.size w.heap.size _ P _ HB.out (by have:=HBl.out; omega) hsz).mono ?_
   rintro e w2 ⟨rfl,hB2,hb2⟩
   rw [cells_snoc,← HN.out] at hB2
   have HB2:=Box.mk hB2
   clear HP HPl HB HN hB2 HBl
   go_wp2
   go_roundw
   case rel=>exact ⟨k+1,by omega,by go_num,hb.trans hb2,⟨.inr HB2.out⟩⟩
   case measure=>simp [intOf]; omega
  ·obtain ⟨P,HP⟩:∃ P:ByteArray,Box (P = ((⟨#[45,45]⟩++edge)++⟨#[45,45]⟩)++⟨#[13,10]⟩):=⟨_,⟨rfl⟩⟩
   have HPl:Box (P.data.toList = lead edge.data.toList++[45,45,13,10]):=⟨by rw [HP.out]; simp [lead]⟩
   have hps:P.size ≤ 100010:=by
    rw [← size_list,HPl.out]
    simp [lead]
    omega
   have hs1:¬ 9223372036854775807 < 2+edge.size:=by omega
   have hs2:¬ 9223372036854775807 < 2+edge.size+2:=by omega
   have hs3:¬ 9223372036854775807 < 2+edge.size+2+2:=by omega
   have HBl:Box ((Lib.byteCells (((ss.map lst).take k).flatMap (pieceW edge.data.toList))).length ≤ 1000000000):=⟨by
    have h1:=pieces_len edge.data.toList ss k
    have h2:=HL.out
    unfold piecesW at h2
    rw [List.length_append,List.length_append] at h2
    simp only [Lib.byteCells,List.length_map]
    omega⟩
   have HN:Box (piecesW edge.data.toList (ss.map lst) = ((ss.map lst).take k).flatMap (pieceW edge.data.toList)++P.data.toList):=⟨by
    rw [List.take_of_length_le (by rw [List.length_map]; omega),HPl.out,piecesW,List.append_assoc]⟩
   clear HX HO HB0 HL
   go_wp2_with fail
   rw [← HP.out]
   refine (Tryz.Builder_WriteString w.heap.size w.heap.size _ P _ HB.out (by have:=HBl.out; omega) hsz).mono ?_
   rintro e w2 ⟨rfl,hB2,hb2⟩
   rw [cells_snoc,← HN.out] at hB2
   have HB2:=Box.mk hB2
   have hb02:=hb.trans hb2
   have hsz2:=hb02.size
   clear HP HPl HB HN hB2 HBl
   go_wp2_with fail
   refine (Tryz.Builder_String w.heap.size w.heap.size _ _ (.inr HB2.out) hsz2).mono ?_
   rintro e w3 ⟨rfl,hb3⟩
   go_wp2
   go_ret
   exact ⟨_,rfl,rfl,hb02.trans hb3⟩
end Go.Proofs.YtknhacbfddggpaaGreatDoor
namespace Go.Proofs.YtknhacbfddggpaaGreatDoor
open Go.RowKit
set_option maxHeartbeats 1000000 in
theorem clStands_any (s edge:ByteArray) (b:Nat) (w:World) (hs:s.size ≤ 1000000000) (he:edge.size ≤ 100000) (hc:w.cell? ⟨b,0,none⟩ = some (.string edge)) (hm:Max w) :
  Calls Tryz.prog 187 #[.string s,.pointer (some ⟨b,0,none⟩)] w fun e w'=>e = .returned (.bool (Lib.contains s.data.toList (lead edge.data.toList)))∧Below w.heap.size w w':=by
 obtain ⟨_,m,hmc⟩:=hm
 have hsum:¬ 9223372036854775807 < 2+edge.size:=by omega
 have HK:=Box.mk (Tryz.strings_Contains s (⟨#[45,45]⟩++edge) m w (by omega) hmc)
 obtain ⟨R,HR⟩:∃ R,Box (R = Lib.contains s.data.toList (lead edge.data.toList)):=⟨_,⟨rfl⟩⟩
 rw [← HR.out]
 rw [lead_list,← HR.out] at HK
 clear HR hmc
 go_enter Tryz.func187,Tryz.ntmps187
 go_wp2_with fail
 refine HK.out.mono ?_
 rintro e w1 ⟨rfl,hw1⟩
 obtain rfl:=hw1.symm
 go_wp2
 go_ret
 exact ⟨rfl,Below.refl _ _⟩
def firstS (p:ByteArray → Bool) (L:List ByteArray):Nat:=(L.takeWhile fun x=>!p x).length
theorem firstS_stop (p:ByteArray → Bool) (L:List ByteArray) (k:Nat) (x:ByteArray) (hk:L[k]? = some x) (h:(L.take k).all (fun x=>!p x) = true) (h':p x = true):firstS p L = k:=by
 unfold firstS
 induction L generalizing k with
 | nil=>simp at hk
 | cons a L ih =>
  cases k with
  | zero =>
   obtain rfl:a = x:=by simpa using hk
   simp [h']
  | succ k =>
   simp only [List.take_succ_cons,List.all_cons,Bool.and_eq_true] at h
   rw [List.takeWhile_cons,if_pos h.1,List.length_cons,ih k (by simpa using hk) h.2]
theorem firstS_full (p:ByteArray → Bool) (L:List ByteArray) (h:L.all (fun x=>!p x) = true):firstS p L = L.length:=by
 unfold firstS
 induction L with
 | nil=>rfl
 | cons a L ih =>
  simp only [List.all_cons,Bool.and_eq_true] at h
  rw [List.takeWhile_cons,if_pos h.1,List.length_cons,ih h.2,List.length_cons]
theorem firstS_any (p:ByteArray → Bool) (L:List ByteArray):decide (firstS p L < L.length) = L.any p:=by
 unfold firstS
 induction L with
 | nil=>rfl
 | cons a L ih =>
  rw [List.takeWhile_cons,List.any_cons]
  cases hp:p a with
  | true=>simp
  | false=>simpa using ih
set_option maxHeartbeats 1600000 in
set_option maxRecDepth 100000 in
theorem idxStands_any (v:Value) (ss:List ByteArray) (edge:ByteArray) (b B:Nat) (w:World) (hO:OwnS w B v ss) (hn:ss.length ≤ 1000000) (hx:∀ x ∈ ss,x.size ≤ 1000000000) (he:edge.size ≤ 100000) (hc:w.cell? ⟨b,0,none⟩ = some (.string edge)) (hm:Max w) :
  Calls Tryz.prog 89 #[v,.func (.func 187) #[] #[.pointer (some ⟨b,0,none⟩)]] w fun e w'=>IxPost (firstS (fun x=>Lib.contains x.data.toList (lead edge.data.toList)) ss) ss.length e∧Below w.heap.size w w':=by
 obtain ⟨A,n,cap,hv⟩:=hO.slice
 subst hv
 have hnl:=hO.len
 have hn1:n ≤ ss.length:=Nat.le_of_eq hnl
 have hn2:ss.length ≤ n:=Nat.le_of_eq hnl.symm
 have HO:=Box.mk hO
 have HX:=Box.mk hx
 have HM:=Box.mk hm
 have hcl:=World.block_lt_of_cell? w _ hc
 have HC:=Box.mk hc
 obtain ⟨p,HP⟩:∃ p:ByteArray → Bool,Box (p = fun x=>Lib.contains x.data.toList (lead edge.data.toList)):=⟨_,⟨rfl⟩⟩
 rw [← HP.out]
 obtain ⟨R,HR⟩:∃ R,Box (R = firstS p ss):=⟨_,⟨rfl⟩⟩
 rw [← HR.out]
 have HL:Box (∀ m,m = ss.length → m = n):=⟨fun m h=>by omega⟩
 clear hO hnl hx hm hc
 go_enter Tryz.func89,Tryz.ntmps89
 go_wp2
 go_loopw [8] (fun i wr=>∃ k:Nat,k ≤ n∧i = .int .i64 k∧Below w.heap.size w wr∧Box ((ss.take k).all (fun x=>!p x) = true)) (fun i _=>n - (intOf i).toNat)
 case atStart=>exact ⟨0,Nat.zero_le _,rfl,Below.refl _ _,⟨by simp⟩⟩
 case round =>
  obtain ⟨k,hk,rfl,hb,HA⟩:=hrel
  by_cases hlt:k < n
  ·have hkl:k < ss.length:=by omega
   obtain ⟨x,HXk⟩:∃ x,Box (ss[k]? = some x):=⟨_,⟨List.getElem?_eq_getElem hkl⟩⟩
   obtain ⟨g,hA,hg,hcell⟩:=HO.out.at hb k x HXk.out
   subst hA
   have hxs:=HX.out x (List.mem_of_getElem? HXk.out)
   have HCL:=Box.mk (clStands_any x edge b wr hxs he ((hb.cell (p:=⟨b,0,none⟩) hcl).trans HC.out) (HM.out.below hb HM.out.1))
   have hpx:Lib.contains x.data.toList (lead edge.data.toList) = p x:=by rw [HP.out]
   rw [hpx] at HCL
   clear hpx hkl
   cases hq:p x
   ·have HA':Box ((ss.take (k+1)).all (fun x=>!p x) = true):=⟨by
     rw [List.take_add_one,HXk.out,List.all_append,HA.out]
     simp [hq]⟩
    rw [hq] at HCL
    clear HO HX HA HXk hq
    go_wp2_with fail
    refine HCL.out.mono ?_
    rintro e w1 ⟨rfl,hb1⟩
    clear HCL
    go_wp2
    go_roundw
    case rel=>exact ⟨k+1,by omega,by go_num,hb.trans (hb1.mono hb.size),HA'⟩
    case measure=>simp [intOf]; omega
   ·have HE:Box (R = k):=⟨by rw [HR.out]; exact firstS_stop p ss k x HXk.out HA.out hq⟩
    rw [hq] at HCL
    clear HO HX HA HXk hq
    go_wp2_with fail
    refine HCL.out.mono ?_
    rintro e w1 ⟨rfl,hb1⟩
    clear HCL
    go_wp2
    go_ret
    exact ⟨by rw [HE.out]; exact .inl ⟨by omega,rfl⟩,hb.trans (hb1.mono hb.size)⟩
  ·have HE:Box (R = ss.length):=⟨by
    have h1:=HA.out
    rw [List.take_of_length_le (by omega)] at h1
    rw [HR.out]; exact firstS_full p ss h1⟩
   clear HO HX HA
   go_wp2
   go_ret
   exact ⟨by rw [HE.out]; exact .inr ⟨rfl,rfl⟩,hb⟩
set_option maxHeartbeats 1000000 in
theorem containsStands_any (v:Value) (ss:List ByteArray) (edge:ByteArray) (b B:Nat) (w:World) (hO:OwnS w B v ss) (hn:ss.length ≤ 1000000) (hx:∀ x ∈ ss,x.size ≤ 1000000000) (he:edge.size ≤ 100000) (hc:w.cell? ⟨b,0,none⟩ = some (.string edge)) (hm:Max w) :
  Calls Tryz.prog 50 #[v,.func (.func 187) #[] #[.pointer (some ⟨b,0,none⟩)]] w fun e w'=>e = .returned (.bool ((ss.map lst).any fun x=>Lib.contains x (lead edge.data.toList)))∧Below w.heap.size w w':=by
 have HI:=Box.mk (idxStands_any v ss edge b B w hO hn hx he hc hm)
 have HA:Box ((ss.map lst).any (fun x=>Lib.contains x (lead edge.data.toList)) = decide (firstS (fun x=>Lib.contains x.data.toList (lead edge.data.toList)) ss < ss.length)):=⟨by
  rw [firstS_any,List.any_map]; rfl⟩
 rw [HA.out]
 obtain ⟨r,hr⟩:∃ r,r = firstS (fun x=>Lib.contains x.data.toList (lead edge.data.toList)) ss:=⟨_,rfl⟩
 rw [← hr] at HI ⊢
 obtain ⟨Q,HQ⟩:∃ Q,Box (Q = decide (r < ss.length)):=⟨_,⟨rfl⟩⟩
 rw [← HQ.out]
 clear HA hr hO hx hc hm
 go_enter Tryz.func50,Tryz.ntmps50
 go_wp2_with fail
 refine HI.out.mono ?_
 rintro e w1 ⟨hI,hb1⟩
 rcases hI with ⟨hlt,rfl⟩ | ⟨hlt,rfl⟩
 ·have HE:Box (Q = true):=⟨by rw [HQ.out,decide_eq_true hlt]⟩
  clear HQ HI
  go_wp2
  go_ret
  exact ⟨by rw [HE.out]; rfl,hb1⟩
 ·have HE:Box (Q = false):=⟨by rw [HQ.out,decide_eq_false (by omega)]⟩
  clear HQ HI
  go_wp2
  go_ret
  exact ⟨by rw [HE.out]; rfl,hb1⟩
end Go.Proofs.YtknhacbfddggpaaGreatDoor
