import Derived.Test.YtknhacbfddggpaaGreatDoorZ27
import Derived.Test.YtknhacbfddggpaaGreatDoorZ30
import Derived.Test.YtknhacbfddggpaaGreatDoorZ26
import Derived.Test.YtknhacbfddggpaaGreatDoorZ7
namespace Go.Proofs.YtknhacbfddggpaaGreatDoor
open Go.RowKit
set_option maxHeartbeats 1000000 in
theorem newID_any (n:Nat) (m:ByteArray) (w:World) (hn:n ≤ 1000000000) (hm:m.size ≤ 1000000) (ht:Tab w) :
  Calls Tryz.prog 23 #[.int .i64 n,.string m] w fun e w'=>∃ t:ByteArray,e = .returned (.string t)∧t.data.toList = partN++(Lib.decDigits n++m.data.toList)∧t.size ≤ m.size+14∧Below w.heap.size w w':=by
 have HT:=Box.mk ht
 clear ht
 go_enter Tryz.func23,Tryz.ntmps23
 go_wp2_with fail
 refine (itoa_any n _ hn HT.out).mono ?_
 rintro e w1 ⟨rfl,hb1⟩
 have hdl:(Lib.decDigits n).length ≤ 10:=by
  rw [Lib.decDigits_length]
  exact nDigits_le 9 n (by omega)
 obtain ⟨D,HD⟩:∃ D:ByteArray,Box (D = ⟨(Lib.decDigits n).toArray⟩):=⟨_,⟨rfl⟩⟩
 rw [← HD.out]
 have HDl:Box (D.data.toList = Lib.decDigits n):=⟨by rw [HD.out]⟩
 have hds:D.size ≤ 10:=by rw [← size_list,HDl.out]; exact hdl
 clear HD hdl
 go_wp2
 go_ret
 refine ⟨_,rfl,?_,?_,hb1⟩
 ·rw [ByteArray.data_append,Array.toList_append,ByteArray.data_append,Array.toList_append,HDl.out,List.append_assoc]; rfl
 ·rw [ByteArray.size_append,ByteArray.size_append]; show 4+D.size+m.size ≤ _; omega
set_option maxHeartbeats 1000000 in
theorem isNamed_any (n v s:ByteArray) (w:World) (hn:n.size ≤ 1000000) (hs:s.size ≤ 1000000) :
  Calls Tryz.prog 56 #[.agg #[.string n,.string v],.string s] w fun e w'=>e = .returned (.bool (decide (smallS n.data.toList = smallS s.data.toList)))∧Below w.heap.size w w':=by
 have hbA:Below w.heap.size w (w.alloc (.cells #[.string n,.string v] 75)):=(Below.refl _ _).alloc (Nat.le_refl _) _
 obtain ⟨r,HR⟩:∃ r,Box (decide (smallS n.data.toList = smallS s.data.toList) = r):=⟨_,⟨rfl⟩⟩
 rw [HR.out]
 go_enter Tryz.func56,Tryz.ntmps56
 go_wp2_with fail
 refine (small_str n _ (by omega)).mono ?_
 rintro e w1 ⟨t,rfl,ht,hb1⟩
 have hb01:=hbA.trans (hb1.mono hbA.size)
 go_wp2_with fail
 refine (small_str s _ (by omega)).mono ?_
 rintro e w2 ⟨u,rfl,hu,hb2⟩
 have hb02:=hb01.trans (hb2.mono hb01.size)
 have HQ:Box (r = (t.toList == u.toList)):=⟨by rw [← HR.out,← ht,← hu,← str_dec]⟩
 clear ht hu HR
 go_wp2
 go_ret
 exact ⟨by rw [HQ.out]; rfl,hb02⟩
end Go.Proofs.YtknhacbfddggpaaGreatDoor
namespace Go.Proofs.YtknhacbfddggpaaGreatDoor
open Go.RowKit
set_option maxHeartbeats 1000000 in
theorem clID_any (n v:ByteArray) (w:World) (q:Bool) (hn:n.size ≤ 1000000) (hq:decide (smallS n.data.toList = ciN) = q) :
  Calls Tryz.prog 60 #[.agg #[.string n,.string v]] w fun e w'=>e = .returned (.bool q)∧Below w.heap.size w w':=by
 rw [← hq,← small_ciHd]
 have hb0:=below_oneP w (objF n v)
 clear hq
 go_enter Tryz.func60,Tryz.ntmps60
 go_wp2_with fail
 refine (isNamed_any n v ciHd _ hn (by decide)).mono ?_
 rintro e w1 ⟨rfl,hb1⟩
 go_wp2
 go_ret
 exact ⟨rfl,hb0.trans (hb1.mono hb0.size)⟩
set_option maxHeartbeats 1000000 in
theorem clTy_any (n v:ByteArray) (w:World) (q:Bool) (hn:n.size ≤ 1000000) (hq:decide (smallS n.data.toList = ctN) = q) :
  Calls Tryz.prog 55 #[.agg #[.string n,.string v]] w fun e w'=>e = .returned (.bool q)∧Below w.heap.size w w':=by
 rw [← hq,← small_ctHd]
 have hb0:=below_oneP w (objF n v)
 clear hq
 go_enter Tryz.func55,Tryz.ntmps55
 go_wp2_with fail
 refine (isNamed_any n v ctHd _ hn (by decide)).mono ?_
 rintro e w1 ⟨rfl,hb1⟩
 go_wp2
 go_ret
 exact ⟨rfl,hb0.trans (hb1.mono hb0.size)⟩
set_option maxHeartbeats 1000000 in
theorem clSt_any (n v:ByteArray) (w:World) (q:Bool) (_:n.size ≤ 1000000) (hq:decide (n.data.toList = stN) = q) :
  Calls Tryz.prog 52 #[.agg #[.string n,.string v]] w fun e w'=>e = .returned (.bool q)∧Below w.heap.size w w':=by
 have hb0:=below_oneP w (objQ n v)
 have HQ:Box ((n.toList == [115,116,97,114,116]) = q):=⟨by
  rw [← hq,ByteArray.toList_eq]
  by_cases h:n.data.toList = stN
  ·rw [decide_eq_true h,h]; rfl
  ·rw [decide_eq_false h]; exact beq_eq_false_iff_ne.2 h⟩
 clear hq
 go_enter Tryz.func52,Tryz.ntmps52
 go_wp2
 go_ret
 exact ⟨by rw [← HQ.out]; rfl,hb0⟩
set_option maxHeartbeats 2000000 in
set_option maxRecDepth 100000 in
theorem idxID_any (v:Value) (L:List Fl) (w:World) (hT:Tiny L) (hF:FL w v L) (p:Fl → Bool) (hc:∀ (n v:ByteArray) (w1:World) (q:Bool),n.size ≤ 1000000 → p (n,v) = q → Calls Tryz.prog 60 #[.agg #[.string n,.string v]] w1 fun e w2=>e = .returned (.bool q)∧Below w1.heap.size w1 w2) :
  Calls Tryz.prog 54 #[v,.func (.func 60) #[] #[]] w fun e w'=>IxPost (firstP (fun f=>!p f) L) L.length e∧Below w.heap.size w w':=by
 obtain ⟨A,cap,rfl,hcap,hcells⟩:=hF
 have HC:=Box.mk hcells
 have hlen:=hT.1
 have HT:=Box.mk hT
 have HN:=Box.mk hc
 obtain ⟨R,HR⟩:∃ R,Box (R = firstP (fun f=>!p f) L):=⟨_,⟨rfl⟩⟩
 rw [← HR.out]
 clear hcells hT hc
 go_enter Tryz.func54,Tryz.ntmps54
 go_wp2
 go_loopw [8] (fun i wr=>∃ k:Nat,k ≤ L.length∧i = .int .i64 k∧Below w.heap.size w wr∧Box ((L.take k).all (fun f=>!p f) = true)) (fun i _=>L.length - (intOf i).toNat)
 case atStart=>exact ⟨0,Nat.zero_le _,rfl,Below.refl _ _,⟨by simp⟩⟩
 case round =>
  obtain ⟨k,hk,rfl,hb,HA⟩:=hrel
  by_cases hlt:k < L.length
  ·obtain ⟨b,off,n,v,rfl,HN2,hn,hv,hbl,d0,d1⟩:=HC.out.elem HT.out hb k hlt
   have hcl:Calls Tryz.prog 60 #[.agg #[.string n,.string v]] wr fun e w'=>e = .returned (.bool (p (n,v)))∧Below wr.heap.size wr w':=HN.out n v wr _ hn rfl
   have HCL:=Box.mk hcl
   cases hq:p (n,v)
   ·have HA':Box ((L.take (k+1)).all (fun f=>!p f) = true):=⟨by
     rw [take_snocF L k _ HN2.out,List.all_append,HA.out]
     simp only [List.all_cons,List.all_nil,hq]; rfl⟩
    rw [hq] at HCL
    clear HC HT HA HN2 hq hcl
    go_wp2_with fail
    refine HCL.out.mono ?_
    rintro e w1 ⟨rfl,hb1⟩
    clear HCL
    go_wp2
    go_roundw
    case rel=>exact ⟨k+1,by omega,by go_num,hb.trans (hb1.mono hb.size),HA'⟩
    case measure=>simp [intOf]; omega
   ·have HE:Box (R = k):=⟨by rw [HR.out]; exact firstP_stop _ L k _ HN2.out HA.out (by simp only [hq]; rfl)⟩
    rw [hq] at HCL
    clear HC HT HA HN2 hq hcl
    go_wp2_with fail
    refine HCL.out.mono ?_
    rintro e w1 ⟨rfl,hb1⟩
    clear HCL
    go_wp2
    go_ret
    exact ⟨by rw [HE.out]; exact .inl ⟨hlt,rfl⟩,hb.trans (hb1.mono hb.size)⟩
  ·have HE:Box (R = L.length):=⟨by
    have h1:=HA.out
    rw [List.take_of_length_le (by omega)] at h1
    rw [HR.out]; exact firstP_full _ L h1⟩
   clear HC HT HA
   go_wp2
   go_ret
   exact ⟨by rw [HE.out]; exact .inr ⟨rfl,rfl⟩,hb⟩
set_option maxHeartbeats 2000000 in
set_option maxRecDepth 100000 in
theorem idxTy_any (v:Value) (L:List Fl) (w:World) (hT:Tiny L) (hF:FL w v L) (p:Fl → Bool) (hc:∀ (n v:ByteArray) (w1:World) (q:Bool),n.size ≤ 1000000 → p (n,v) = q → Calls Tryz.prog 55 #[.agg #[.string n,.string v]] w1 fun e w2=>e = .returned (.bool q)∧Below w1.heap.size w1 w2) :
  Calls Tryz.prog 54 #[v,.func (.func 55) #[] #[]] w fun e w'=>IxPost (firstP (fun f=>!p f) L) L.length e∧Below w.heap.size w w':=by
 obtain ⟨A,cap,rfl,hcap,hcells⟩:=hF
 have HC:=Box.mk hcells
 have hlen:=hT.1
 have HT:=Box.mk hT
 have HN:=Box.mk hc
 obtain ⟨R,HR⟩:∃ R,Box (R = firstP (fun f=>!p f) L):=⟨_,⟨rfl⟩⟩
 rw [← HR.out]
 clear hcells hT hc
 go_enter Tryz.func54,Tryz.ntmps54
 go_wp2
 go_loopw [8] (fun i wr=>∃ k:Nat,k ≤ L.length∧i = .int .i64 k∧Below w.heap.size w wr∧Box ((L.take k).all (fun f=>!p f) = true)) (fun i _=>L.length - (intOf i).toNat)
 case atStart=>exact ⟨0,Nat.zero_le _,rfl,Below.refl _ _,⟨by simp⟩⟩
 case round =>
  obtain ⟨k,hk,rfl,hb,HA⟩:=hrel
  by_cases hlt:k < L.length
  ·obtain ⟨b,off,n,v,rfl,HN2,hn,hv,hbl,d0,d1⟩:=HC.out.elem HT.out hb k hlt
   have hcl:Calls Tryz.prog 55 #[.agg #[.string n,.string v]] wr fun e w'=>e = .returned (.bool (p (n,v)))∧Below wr.heap.size wr w':=HN.out n v wr _ hn rfl
   have HCL:=Box.mk hcl
   cases hq:p (n,v)
   ·have HA':Box ((L.take (k+1)).all (fun f=>!p f) = true):=⟨by
     rw [take_snocF L k _ HN2.out,List.all_append,HA.out]
     simp only [List.all_cons,List.all_nil,hq]; rfl⟩
    rw [hq] at HCL
    clear HC HT HA HN2 hq hcl
    go_wp2_with fail
    refine HCL.out.mono ?_
    rintro e w1 ⟨rfl,hb1⟩
    clear HCL
    go_wp2
    go_roundw
    case rel=>exact ⟨k+1,by omega,by go_num,hb.trans (hb1.mono hb.size),HA'⟩
    case measure=>simp [intOf]; omega
   ·have HE:Box (R = k):=⟨by rw [HR.out]; exact firstP_stop _ L k _ HN2.out HA.out (by simp only [hq]; rfl)⟩
    rw [hq] at HCL
    clear HC HT HA HN2 hq hcl
    go_wp2_with fail
    refine HCL.out.mono ?_
    rintro e w1 ⟨rfl,hb1⟩
    clear HCL
    go_wp2
    go_ret
    exact ⟨by rw [HE.out]; exact .inl ⟨hlt,rfl⟩,hb.trans (hb1.mono hb.size)⟩
  ·have HE:Box (R = L.length):=⟨by
    have h1:=HA.out
    rw [List.take_of_length_le (by omega)] at h1
    rw [HR.out]; exact firstP_full _ L h1⟩
   clear HC HT HA
   go_wp2
   go_ret
   exact ⟨by rw [HE.out]; exact .inr ⟨rfl,rfl⟩,hb⟩
set_option maxHeartbeats 2000000 in
set_option maxRecDepth 100000 in
theorem idxSt_any (v:Value) (L:List Fl) (w:World) (hT:Tiny L) (hF:FL w v L) (p:Fl → Bool) (hc:∀ (n v:ByteArray) (w1:World) (q:Bool),n.size ≤ 1000000 → p (n,v) = q → Calls Tryz.prog 52 #[.agg #[.string n,.string v]] w1 fun e w2=>e = .returned (.bool q)∧Below w1.heap.size w1 w2) :
  Calls Tryz.prog 90 #[v,.func (.func 52) #[] #[]] w fun e w'=>IxPost (firstP (fun f=>!p f) L) L.length e∧Below w.heap.size w w':=by
 obtain ⟨A,cap,rfl,hcap,hcells⟩:=hF
 have HC:=Box.mk hcells
 have hlen:=hT.1
 have HT:=Box.mk hT
 have HN:=Box.mk hc
 obtain ⟨R,HR⟩:∃ R,Box (R = firstP (fun f=>!p f) L):=⟨_,⟨rfl⟩⟩
 rw [← HR.out]
 clear hcells hT hc
 go_enter Tryz.func90,Tryz.ntmps90
 go_wp2
 go_loopw [8] (fun i wr=>∃ k:Nat,k ≤ L.length∧i = .int .i64 k∧Below w.heap.size w wr∧Box ((L.take k).all (fun f=>!p f) = true)) (fun i _=>L.length - (intOf i).toNat)
 case atStart=>exact ⟨0,Nat.zero_le _,rfl,Below.refl _ _,⟨by simp⟩⟩
 case round =>
  obtain ⟨k,hk,rfl,hb,HA⟩:=hrel
  by_cases hlt:k < L.length
  ·obtain ⟨b,off,n,v,rfl,HN2,hn,hv,hbl,d0,d1⟩:=HC.out.elem HT.out hb k hlt
   have hcl:Calls Tryz.prog 52 #[.agg #[.string n,.string v]] wr fun e w'=>e = .returned (.bool (p (n,v)))∧Below wr.heap.size wr w':=HN.out n v wr _ hn rfl
   have HCL:=Box.mk hcl
   cases hq:p (n,v)
   ·have HA':Box ((L.take (k+1)).all (fun f=>!p f) = true):=⟨by
     rw [take_snocF L k _ HN2.out,List.all_append,HA.out]
     simp only [List.all_cons,List.all_nil,hq]; rfl⟩
    rw [hq] at HCL
    clear HC HT HA HN2 hq hcl
    go_wp2_with fail
    refine HCL.out.mono ?_
    rintro e w1 ⟨rfl,hb1⟩
    clear HCL
    go_wp2
    go_roundw
    case rel=>exact ⟨k+1,by omega,by go_num,hb.trans (hb1.mono hb.size),HA'⟩
    case measure=>simp [intOf]; omega
   ·have HE:Box (R = k):=⟨by rw [HR.out]; exact firstP_stop _ L k _ HN2.out HA.out (by simp only [hq]; rfl)⟩
    rw [hq] at HCL
    clear HC HT HA HN2 hq hcl
    go_wp2_with fail
    refine HCL.out.mono ?_
    rintro e w1 ⟨rfl,hb1⟩
    clear HCL
    go_wp2
    go_ret
    exact ⟨by rw [HE.out]; exact .inl ⟨hlt,rfl⟩,hb.trans (hb1.mono hb.size)⟩
  ·have HE:Box (R = L.length):=⟨by
    have h1:=HA.out
    rw [List.take_of_length_le (by omega)] at h1
    rw [HR.out]; exact firstP_full _ L h1⟩
   clear HC HT HA
   go_wp2
   go_ret
   exact ⟨by rw [HE.out]; exact .inr ⟨rfl,rfl⟩,hb⟩
set_option maxHeartbeats 2000000 in
set_option maxRecDepth 100000 in
theorem delID_any (v:Value) (L:List Fl) (B:Nat) (w:World) (hT:Tiny L) (hO:OwnF w B v L) (hBw:B ≤ w.heap.size) (p:Fl → Bool) (hc:∀ (n v:ByteArray) (w1:World) (q:Bool),n.size ≤ 1000000 → p (n,v) = q → Calls Tryz.prog 60 #[.agg #[.string n,.string v]] w1 fun e w2=>e = .returned (.bool q)∧Below w1.heap.size w1 w2) :
  Calls Tryz.prog 59 #[v,.func (.func 60) #[] #[]] w fun e w'=>∃ v',e = .returned v'∧OwnF w' B v' (L.filter fun f=>!p f)∧Below B w w':=by
 have HT:=Box.mk hT
 have HO:=Box.mk hO
 have HN:=Box.mk hc
 have hlen:=hT.1
 obtain ⟨v0,hv0⟩:∃ v0,v0 = v:=⟨v,rfl⟩
 rcases hO.shape with ⟨hv,hL⟩ | ⟨g,cap,hv,hBg,hgw,hcap⟩
 ·subst hv hL
  clear hT hO hc hv0
  go_enter Tryz.func59,Tryz.ntmps59
  go_wp2_with fail
  refine (idxID_any _ [] _ HT.out (FL.nil _) p HN.out).mono ?_
  rintro e w1 ⟨hI,hb1⟩
  rcases hI with ⟨hI,_⟩ | ⟨_,rfl⟩
  ·exact absurd hI (by simp)
  ·go_wp2
   go_ret
   exact ⟨_,rfl,OwnF.nil _ _,hb1.mono hBw⟩
 ·subst hv
  clear hT hO hc hv0
  go_enter Tryz.func59,Tryz.ntmps59
  go_wp2_with fail
  refine (idxID_any _ L _ HT.out HO.out.fl p HN.out).mono ?_
  rintro e w1 ⟨hI,hb1⟩
  have HO1:=Box.mk (HO.out.below hb1 (Nat.le_refl _))
  have hsz1:=hb1.size
  rcases hI with ⟨hI,rfl⟩ | ⟨hI,rfl⟩
  ·obtain ⟨r,hr⟩:∃ r,r = firstP (fun f=>!p f) L:=⟨_,rfl⟩
   have hst:=firstP_at (fun f=>!p f) L (by rw [← hr] at hI; exact hr ▸ hI)
   rw [← hr] at hst hI ⊢
   obtain ⟨f0,hf0,hp0,htk⟩:=hst
   have HI0:Box (L.take r = (L.take (r+1)).filter (fun f=>!p f)):=⟨by rw [filter_take L _ r f0 hf0,hp0,htk]; simp⟩
   clear hf0 hp0 htk hr
   go_wp2
   go_loopw [5,6] (fun c5 c6 wr=>∃ (i j:Nat) (M:List Fl),j ≤ L.length∧c5 = .int .i64 i∧c6 = .int .i64 j∧i < j∧M.length ≤ L.length∧L.length ≤ M.length∧Box (OwnF wr B (.slice (some ⟨g,0,none⟩) L.length cap) M)∧Box (M.take i = (L.take j).filter (fun f=>!p f))∧Box (M.drop j = L.drop j)∧Below B w wr) (fun _ c6 _=>L.length - (intOf c6).toNat)
   case atStart=>exact ⟨r,r+1,L,by omega,rfl,by go_num,by omega,Nat.le_refl _,Nat.le_refl _,HO1,HI0,⟨rfl⟩,hb1.mono hBw⟩
   case round =>
    obtain ⟨i,j,M,hj,rfl,rfl,hij,hM1,hM2,HOr,HTk,HDr,hb⟩:=hrel
    have hML:M.length = L.length:=Nat.le_antisymm hM1 hM2
    have HML:=Box.mk hML
    have hszr:=hb.size
    by_cases hlt:j < L.length
    ·obtain ⟨f,HF⟩:∃ f,Box (L[j]? = some f):=⟨_,⟨List.getElem?_eq_getElem hlt⟩⟩
     have hMj:M[j]? = some f:=by
      have h1:=congrArg (fun l=>l[0]?) HDr.out
      simpa [List.getElem?_drop,HF.out] using h1
     have hjM:j < M.length:=by omega
     have hiM:i < M.length:=by omega
     have hOM:OwnF wr B (.slice (some ⟨g,0,none⟩) M.length cap) M:=by rw [hML]; exact HOr.out
     have hcj:=hOM.cell j hjM
     have hMe:M[j] = f:=by rw [List.getElem?_eq_getElem hjM] at hMj; exact Option.some.inj hMj
     rw [hMe] at hcj
     obtain ⟨d0,d1,_⟩:=hcj
     have hfs:=HT.out.2 f (List.mem_of_getElem? HF.out)
     obtain ⟨fn,fv⟩:=f
     simp only at d0 d1 hfs
     have hgr:g < wr.heap.size:=World.block_lt_of_cell? wr _ d0
     have hba:=below_oneP wr (objF fn fv)
     have HFt:=Box.mk (filter_take L (fun f=>!p f) j _ HF.out)
     have HOM:=Box.mk hOM
     clear hML hMj hMe hOM hb1 HOr HI0 HO1
     cases hq:p (fn,fv)
     ·go_wp2_with fail
      refine (HN.out fn fv _ false hfs.1 hq).mono ?_
      rintro e w2 ⟨rfl,hb2⟩
      obtain ⟨y0,y1,yf⟩:=b2_of ((hb2.block wr.heap.size (by simp)).trans (heap_oneP wr (objF fn fv)))
      have hO2:=(HOM.out.below hba (Nat.le_refl _)).below hb2 (Nat.le_refl _)
      obtain ⟨e0,e1,_⟩:=hO2.cell i hiM
      have hfz:∀ k,w2.frozen? ⟨g,k,none⟩ = false:=fun k=>World.ownsRow.frozenAt (show w2.ownsRow B 75 2 (.slice (some ⟨g,0,none⟩) M.length cap) M.length (fcells M) from hO2) k
      have HO3:Box (OwnF ((w2.setCell ⟨g,i * 2,none⟩ (.string fn)).setCell ⟨g,i * 2+1,none⟩ (.string fv)) B (.slice (some ⟨g,0,none⟩) L.length cap) (M.set i (fn,fv))):=⟨by have:=hO2.set2 i hiM fn fv; rw [HML.out] at this; exact this⟩
      have HT':Box ((M.set i (fn,fv)).take (i+1) = (L.take (j+1)).filter (fun f=>!p f)):=⟨by rw [HFt.out,hq,take_set_snoc M i _ hiM,HTk.out]; rfl⟩
      have HD':Box ((M.set i (fn,fv)).drop (j+1) = L.drop (j+1)):=⟨by
       rw [List.drop_set_of_lt (by omega),← List.drop_drop,HDr.out,List.drop_drop]⟩
      have hb2w:=(hb.trans (hba.mono (Nat.le_trans hBw hszr))).trans (hb2.mono (by simp; omega))
      clear HOM HFt HTk HDr  hq hb2 hO2 hba hb
      go_wp2
      go_roundw
      case rel =>
       refine ⟨_,_,_,_,_,_,_,_,_,_,_,_,_,_,_,_,_,_,_,_,_,_,_,⟨i+1,j+1,M.set i (fn,fv),by omega,by go_num,by go_num,by omega,by simp; omega,by simp; omega,HO3,HT',HD',?_⟩,rfl⟩
       exact Below.setCell (Below.setCell hb2w (by exact hBg) _) (by exact hBg) _
      case measure=>simp [intOf]; omega
     ·go_wp2_with fail
      refine (HN.out fn fv _ true hfs.1 hq).mono ?_
      rintro e w2 ⟨rfl,hb2⟩
      have HO3:Box (OwnF w2 B (.slice (some ⟨g,0,none⟩) L.length cap) M):=⟨by have:=(HOM.out.below hba (Nat.le_refl _)).below hb2 (Nat.le_refl _); rw [HML.out] at this; exact this⟩
      have HT':Box (M.take i = (L.take (j+1)).filter (fun f=>!p f)):=⟨by rw [HFt.out,hq,HTk.out]; simp⟩
      have HD':Box (M.drop (j+1) = L.drop (j+1)):=⟨by rw [← List.drop_drop,HDr.out,List.drop_drop]⟩
      have hb2w:=(hb.trans (hba.mono (Nat.le_trans hBw hszr))).trans (hb2.mono (by simp; omega))
      clear HOM HFt HTk HDr  hq hb2 hba hb
      go_wp2
      go_roundw
      case rel=>exact ⟨_,_,_,_,_,_,_,_,_,_,_,_,_,_,_,_,_,_,_,_,_,_,_,⟨i,j+1,M,by omega,by go_num,by go_num,by omega,by omega,by omega,HO3,HT',HD',hb2w⟩,rfl⟩
      case measure=>simp [intOf]; omega
    ·have HE:Box (M.take i = L.filter (fun f=>!p f)):=⟨by rw [HTk.out,List.take_of_length_le (by omega)]⟩
     clear HTk HDr HI0 HO1 hML
     obtain ⟨w3,hr3,hown3,hg3⟩:=clear_own wr B g L.length cap i 0 M HOr.out (by omega) HML.out
     go_wp2
     go_ret
     exact ⟨_,rfl,by rw [← HE.out]; exact hown3,hb.grown hg3 (Nat.le_trans hBw hszr) (fun k e=>by cases e; exact hBg)⟩
  ·have HFI:=Box.mk (filter_first (fun f=>!p f) L hI)
   clear hI
   go_wp2
   go_ret
   exact ⟨_,rfl,by rw [HFI.out]; exact HO1.out,hb1.mono hBw⟩
theorem OwnQ.set2 {w:World} {B g cap:Nat} {L:List Fl} (h:OwnQ w B (.slice (some ⟨g,0,none⟩) L.length cap) L) (k:Nat) (hk:k < L.length) (x y:ByteArray):OwnQ ((w.setCell ⟨g,k * 2,none⟩ (.string x)).setCell ⟨g,k * 2+1,none⟩ (.string y)) B (.slice (some ⟨g,0,none⟩) L.length cap) (L.set k (x,y)):=by
 have h':w.ownsRow B 103 2 (.slice (some ⟨g,0,none⟩) L.length cap) L.length (fcells L):=h
 have h1:=(World.ownsRow.stored h' (k * 2) (.string x)).1
 rw [fcells_set0 L k hk x] at h1
 have h2:=(World.ownsRow.stored h1 (k * 2+1) (.string y)).1
 rw [fcells_set (L.set k (x,L[k].2)) k (by simpa using hk) y] at h2
 unfold OwnQ
 rw [List.length_set]
 simpa using h2
theorem clear_ownQ (w:World) (B g n cap i:Nat) (ty:TypeId) (M:List Fl) (h:OwnQ w B (.slice (some ⟨g,0,none⟩) n cap) M) (hi:i < n) (hn:M.length = n) :
  ∃ w',(Builtin.clear_ #[51] ty #[.slice (some ⟨g,i * 2,none⟩) (n - i) (cap - i)]).run Tryz.prog w = .ok (.tuple #[]) w'∧OwnQ w' B (.slice (some ⟨g,0,none⟩) i cap) (M.take i)∧w.grownBy w' (some g):=by
 rcases h.2 with ⟨h',_⟩ | ⟨g',cap',cur,h',hb,hg,hc1,hc2,hc3,hc4⟩
 ·cases h'
 ·simp only [Value.slice.injEq,Option.some.injEq,Addr.mk.injEq,and_true] at h'
  obtain ⟨rfl,_,rfl⟩:=h'
  obtain ⟨m,hm⟩:∃ m,n - i = m+1:=⟨n - i - 1,by omega⟩
  have hz:(Builtin.zeroCells #[Value.string ⟨#[]⟩,Value.string ⟨#[]⟩] (n - i)).toList.length = (n - i) * 2:=by simp [Builtin.zeroCells]
  have hst:=run_storeCells_at Tryz.prog g (i * 2) 103 (Builtin.zeroCells #[Value.string ⟨#[]⟩,Value.string ⟨#[]⟩] (n - i)).toList 0 cur w hg (by rw [hz]; omega) (by
   intro v hv
   simp only [Builtin.zeroCells,Array.toList_map,List.mem_map] at hv
   obtain ⟨j,_,rfl⟩:=hv
   show (#[Value.string ⟨#[]⟩,Value.string ⟨#[]⟩][j % 2]!).oneCell' = true
   rcases Nat.mod_two_eq_zero_or_one j with h2 | h2 <;> rw [h2] <;> rfl)
  refine ⟨w.setRow g (cur.toList.take (i * 2)++(Builtin.zeroCells #[Value.string ⟨#[]⟩,Value.string ⟨#[]⟩] (n - i)).toList++cur.toList.drop (i * 2+(Builtin.zeroCells #[Value.string ⟨#[]⟩,Value.string ⟨#[]⟩] (n - i)).toList.length)).toArray,?_,?_,?_⟩
  ·rw [hm] at hst ⊢
   simp only [Nat.add_zero] at hst
   have hcell:(Value.agg #[Value.string ⟨#[]⟩,Value.string ⟨#[]⟩]).cells = #[Value.string ⟨#[]⟩,Value.string ⟨#[]⟩]:=rfl
   simp [Builtin.clear_,run_underlying Tryz.underlying51,Tryz.zeroValue103,hcell,hst]
  ·have hml:(M.take i).length = i:=by rw [List.length_take]; omega
   have ht:(cur.toList.take (i * 2)) = fcells (M.take i):=by
    rw [fcells_take,← hc4,List.take_take]
    congr 1
    omega
   refine ⟨by rw [fcells_length],.inr ⟨g,cap,_,by rw [hml],hb,setRow_heap w g cur _ _ _ hg,by omega,hc2,?_,?_⟩⟩
   ·simp only [List.size_toArray,List.length_append,List.length_take,List.length_drop,Array.length_toList,hz]
    omega
   ·rw [hml,← ht]
    simp only [List.append_assoc]
    rw [List.take_append_of_le_length (by rw [List.length_take,Array.length_toList]; omega),List.take_of_length_le (by rw [List.length_take]; omega)]
  ·exact ⟨rfl,rfl,rfl,by simp,fun k _ hk=>setRow_other w g k _ (fun e=>hk (by rw [e]))⟩
set_option maxHeartbeats 2000000 in
set_option maxRecDepth 100000 in
theorem delSt_any (v:Value) (L:List Fl) (B:Nat) (w:World) (hT:Tiny L) (hO:OwnQ w B v L) (hBw:B ≤ w.heap.size) (p:Fl → Bool) (hc:∀ (n v:ByteArray) (w1:World) (q:Bool),n.size ≤ 1000000 → p (n,v) = q → Calls Tryz.prog 52 #[.agg #[.string n,.string v]] w1 fun e w2=>e = .returned (.bool q)∧Below w1.heap.size w1 w2) :
  Calls Tryz.prog 51 #[v,.func (.func 52) #[] #[]] w fun e w'=>∃ v',e = .returned v'∧OwnQ w' B v' (L.filter fun f=>!p f)∧Below B w w':=by
 have HT:=Box.mk hT
 have HO:=Box.mk hO
 have HN:=Box.mk hc
 have hlen:=hT.1
 obtain ⟨v0,hv0⟩:∃ v0,v0 = v:=⟨v,rfl⟩
 rcases hO.shape with ⟨hv,hL⟩ | ⟨g,cap,hv,hBg,hgw,hcap⟩
 ·subst hv hL
  clear hT hO hc hv0
  go_enter Tryz.func51,Tryz.ntmps51
  go_wp2_with fail
  refine (idxSt_any _ [] _ HT.out (FL.nil _) p HN.out).mono ?_
  rintro e w1 ⟨hI,hb1⟩
  rcases hI with ⟨hI,_⟩ | ⟨_,rfl⟩
  ·exact absurd hI (by simp)
  ·go_wp2
   go_ret
   exact ⟨_,rfl,OwnQ.nil _ _,hb1.mono hBw⟩
 ·subst hv
  clear hT hO hc hv0
  go_enter Tryz.func51,Tryz.ntmps51
  go_wp2_with fail
  refine (idxSt_any _ L _ HT.out HO.out.fl p HN.out).mono ?_
  rintro e w1 ⟨hI,hb1⟩
  have HO1:=Box.mk (HO.out.below hb1 (Nat.le_refl _))
  have hsz1:=hb1.size
  rcases hI with ⟨hI,rfl⟩ | ⟨hI,rfl⟩
  ·obtain ⟨r,hr⟩:∃ r,r = firstP (fun f=>!p f) L:=⟨_,rfl⟩
   have hst:=firstP_at (fun f=>!p f) L (by rw [← hr] at hI; exact hr ▸ hI)
   rw [← hr] at hst hI ⊢
   obtain ⟨f0,hf0,hp0,htk⟩:=hst
   have HI0:Box (L.take r = (L.take (r+1)).filter (fun f=>!p f)):=⟨by rw [filter_take L _ r f0 hf0,hp0,htk]; simp⟩
   clear hf0 hp0 htk hr
   go_wp2
   go_loopw [5,6] (fun c5 c6 wr=>∃ (i j:Nat) (M:List Fl),j ≤ L.length∧c5 = .int .i64 i∧c6 = .int .i64 j∧i < j∧M.length ≤ L.length∧L.length ≤ M.length∧Box (OwnQ wr B (.slice (some ⟨g,0,none⟩) L.length cap) M)∧Box (M.take i = (L.take j).filter (fun f=>!p f))∧Box (M.drop j = L.drop j)∧Below B w wr) (fun _ c6 _=>L.length - (intOf c6).toNat)
   case atStart=>exact ⟨r,r+1,L,by omega,rfl,by go_num,by omega,Nat.le_refl _,Nat.le_refl _,HO1,HI0,⟨rfl⟩,hb1.mono hBw⟩
   case round =>
    obtain ⟨i,j,M,hj,rfl,rfl,hij,hM1,hM2,HOr,HTk,HDr,hb⟩:=hrel
    have hML:M.length = L.length:=Nat.le_antisymm hM1 hM2
    have HML:=Box.mk hML
    have hszr:=hb.size
    by_cases hlt:j < L.length
    ·obtain ⟨f,HF⟩:∃ f,Box (L[j]? = some f):=⟨_,⟨List.getElem?_eq_getElem hlt⟩⟩
     have hMj:M[j]? = some f:=by
      have h1:=congrArg (fun l=>l[0]?) HDr.out
      simpa [List.getElem?_drop,HF.out] using h1
     have hjM:j < M.length:=by omega
     have hiM:i < M.length:=by omega
     have hOM:OwnQ wr B (.slice (some ⟨g,0,none⟩) M.length cap) M:=by rw [hML]; exact HOr.out
     have hcj:=hOM.cell j hjM
     have hMe:M[j] = f:=by rw [List.getElem?_eq_getElem hjM] at hMj; exact Option.some.inj hMj
     rw [hMe] at hcj
     obtain ⟨d0,d1,_⟩:=hcj
     have hfs:=HT.out.2 f (List.mem_of_getElem? HF.out)
     obtain ⟨fn,fv⟩:=f
     simp only at d0 d1 hfs
     have hgr:g < wr.heap.size:=World.block_lt_of_cell? wr _ d0
     have hba:=below_oneP wr (objQ fn fv)
     have HFt:=Box.mk (filter_take L (fun f=>!p f) j _ HF.out)
     have HOM:=Box.mk hOM
     clear hML hMj hMe hOM hb1 HOr HI0 HO1
     cases hq:p (fn,fv)
     ·go_wp2_with fail
      refine (HN.out fn fv _ false hfs.1 hq).mono ?_
      rintro e w2 ⟨rfl,hb2⟩
      obtain ⟨y0,y1,yf⟩:=b2_of ((hb2.block wr.heap.size (by simp)).trans (heap_oneP wr (objQ fn fv)))
      have hO2:=(HOM.out.below hba (Nat.le_refl _)).below hb2 (Nat.le_refl _)
      obtain ⟨e0,e1,_⟩:=hO2.cell i hiM
      have hfz:∀ k,w2.frozen? ⟨g,k,none⟩ = false:=fun k=>World.ownsRow.frozenAt (show w2.ownsRow B 103 2 (.slice (some ⟨g,0,none⟩) M.length cap) M.length (fcells M) from hO2) k
      have HO3:Box (OwnQ ((w2.setCell ⟨g,i * 2,none⟩ (.string fn)).setCell ⟨g,i * 2+1,none⟩ (.string fv)) B (.slice (some ⟨g,0,none⟩) L.length cap) (M.set i (fn,fv))):=⟨by have:=hO2.set2 i hiM fn fv; rw [HML.out] at this; exact this⟩
      have HT':Box ((M.set i (fn,fv)).take (i+1) = (L.take (j+1)).filter (fun f=>!p f)):=⟨by rw [HFt.out,hq,take_set_snoc M i _ hiM,HTk.out]; rfl⟩
      have HD':Box ((M.set i (fn,fv)).drop (j+1) = L.drop (j+1)):=⟨by
       rw [List.drop_set_of_lt (by omega),← List.drop_drop,HDr.out,List.drop_drop]⟩
      have hb2w:=(hb.trans (hba.mono (Nat.le_trans hBw hszr))).trans (hb2.mono (by simp; omega))
      clear HOM HFt HTk HDr  hq hb2 hO2 hba hb
      go_wp2
      go_roundw
      case rel =>
       refine ⟨_,_,_,_,_,_,_,_,_,_,_,_,_,_,_,_,_,_,_,_,_,_,_,⟨i+1,j+1,M.set i (fn,fv),by omega,by go_num,by go_num,by omega,by simp; omega,by simp; omega,HO3,HT',HD',?_⟩,rfl⟩
       exact Below.setCell (Below.setCell hb2w (by exact hBg) _) (by exact hBg) _
      case measure=>simp [intOf]; omega
     ·go_wp2_with fail
      refine (HN.out fn fv _ true hfs.1 hq).mono ?_
      rintro e w2 ⟨rfl,hb2⟩
      have HO3:Box (OwnQ w2 B (.slice (some ⟨g,0,none⟩) L.length cap) M):=⟨by have:=(HOM.out.below hba (Nat.le_refl _)).below hb2 (Nat.le_refl _); rw [HML.out] at this; exact this⟩
      have HT':Box (M.take i = (L.take (j+1)).filter (fun f=>!p f)):=⟨by rw [HFt.out,hq,HTk.out]; simp⟩
      have HD':Box (M.drop (j+1) = L.drop (j+1)):=⟨by rw [← List.drop_drop,HDr.out,List.drop_drop]⟩
      have hb2w:=(hb.trans (hba.mono (Nat.le_trans hBw hszr))).trans (hb2.mono (by simp; omega))
      clear HOM HFt HTk HDr  hq hb2 hba hb
      go_wp2
      go_roundw
      case rel=>exact ⟨_,_,_,_,_,_,_,_,_,_,_,_,_,_,_,_,_,_,_,_,_,_,_,⟨i,j+1,M,by omega,by go_num,by go_num,by omega,by omega,by omega,HO3,HT',HD',hb2w⟩,rfl⟩
      case measure=>simp [intOf]; omega
    ·have HE:Box (M.take i = L.filter (fun f=>!p f)):=⟨by rw [HTk.out,List.take_of_length_le (by omega)]⟩
     clear HTk HDr HI0 HO1 hML
     obtain ⟨w3,hr3,hown3,hg3⟩:=clear_ownQ wr B g L.length cap i 0 M HOr.out (by omega) HML.out
     go_wp2
     go_ret
     exact ⟨_,rfl,by rw [← HE.out]; exact hown3,hb.grown hg3 (Nat.le_trans hBw hszr) (fun k e=>by cases e; exact hBg)⟩
  ·have HFI:=Box.mk (filter_first (fun f=>!p f) L hI)
   clear hI
   go_wp2
   go_ret
   exact ⟨_,rfl,by rw [HFI.out]; exact HO1.out,hb1.mono hBw⟩
end Go.Proofs.YtknhacbfddggpaaGreatDoor
namespace Go.Proofs.YtknhacbfddggpaaGreatDoor
open Go.RowKit
theorem ownF_len {w:World} {B:Nat} {v:Value} {L:List Fl} (h:OwnF w B v L):∃ A cap,v = .slice A L.length cap∧L.length ≤ cap:=by
 rcases h.shape with ⟨rfl,rfl⟩ | ⟨g,cap,rfl,_,_,hc⟩
 ·exact ⟨_,_,rfl,Nat.le_refl _⟩
 ·exact ⟨_,_,rfl,hc⟩
def isCi (f:Fl):Bool:=decide (smallS f.1.data.toList = ciN)
set_option maxHeartbeats 1000000 in
set_option maxRecDepth 100000 in
theorem withID_any (v:Value) (L:List Fl) (id:ByteArray) (w:World) (hT:Hd L) (hF:FL w v L) (hi:id.size ≤ 50000) :
  Calls Tryz.prog 25 #[v,.string id] w fun e w'=>∃ u M,e = .returned u∧OwnF w' w.heap.size u M∧M.map fl2 = ((L.map fl2).filter fun f=>!decide (smallS f.1 = ciN))++[(ciB,angledB id.data.toList)]∧M.length ≤ L.length+1∧Below w.heap.size w w':=by
 obtain ⟨A,cap,hv,hcap,hcells⟩:=_root_.id hF
 subst hv
 have HT:=Box.mk hT.half.tiny
 have HF:=Box.mk hF
 have hlen:=hT.1
 clear hT hF hcells
 go_enter Tryz.func25,Tryz.ntmps25
 go_wp2_with fail
 refine (clone_any _ L _ HT.out HF.out).mono ?_
 rintro e w1 ⟨v1,rfl,hO1,hb1⟩
 have HO1:=Box.mk hO1
 clear hO1
 go_wp2_with fail
 refine (delID_any v1 L w.heap.size _ HT.out HO1.out hb1.size isCi (fun n v w1 q hn hq=>clID_any n v w1 q hn hq)).mono ?_
 rintro e w2 ⟨v2,rfl,hO2,hb2⟩
 have hb02:=hb1.trans hb2
 obtain ⟨A2,cap2,rfl,-⟩:=ownF_len hO2
 have HO2:=Box.mk hO2
 clear hO2 HO1
 go_wp2_with fail
 refine (angled_any id _ (by omega)).mono ?_
 rintro e w3 ⟨t,rfl,ht,hts,hw3⟩
 obtain rfl:=hw3.symm
 have hl:(L.filter fun f=>!isCi f).length ≤ L.length:=List.length_filter_le _ _
 have hl2:(L.filter fun f=>!isCi f).length+1 ≤ 1000000:=by omega
 have HM:Box (((L.filter fun f=>!isCi f)++[(ciHd,t)]).map fl2 = ((L.map fl2).filter fun f=>!decide (smallS f.1 = ciN))++[(ciB,angledB id.data.toList)]):=⟨by
  rw [List.map_append,List.filter_map,← ht]
  rfl⟩
 have hl3:((L.filter fun f=>!isCi f)++[(ciHd,t)]).length ≤ L.length+1:=by
  rw [List.length_append]
  exact Nat.add_le_add_right hl 1
 have hsz:=hb02.size
 generalize (L.filter fun f=>!isCi f) = M at HO2 HM hl hl2 hl3 ⊢
 clear ht hts
 go_wp2_with (at_builtin; refine wp_appF _ w rfl (.tmp 9) (.tmp 13) rfl w.heap.size _ M rfl (World.ownsRow.alloc HO2.out _) _ _ (ciHd,t) rfl (by simp; rfl) (by simp) hl2 (by simp; omega) (hb02.alloc hsz _) ?_; intro v4 w4 hO4 hb4)
 obtain ⟨A4,cap4,rfl,-⟩:=ownF_len hO4
 go_wp2
 go_ret
 exact ⟨_,_,rfl,hO4,HM.out,hl3,hb4⟩
end Go.Proofs.YtknhacbfddggpaaGreatDoor
namespace Go.Proofs.YtknhacbfddggpaaGreatDoor
open Go.RowKit
def stHd:ByteArray:=⟨#[115,116,97,114,116]⟩
def isSt (f:Fl):Bool:=decide (f.1.data.toList = stN)
theorem sumP_mem (ps:List PB):∀ p ∈ ps,p.1.length+p.2.length+2 ≤ sumP ps:=by
 induction ps with
 | nil=>intro p hp; cases hp
 | cons q ps ih =>
  intro p hp
  rw [sumP_cons]
  rcases List.mem_cons.1 hp with rfl | hp
  ·omega
  ·have:=ih p hp; omega
theorem sumP_count (ps:List PB) (h:ps.all goodP = true):3 * ps.length ≤ sumP ps:=by
 induction ps with
 | nil=>exact Nat.zero_le _
 | cons q ps ih =>
  rw [List.all_cons,Bool.and_eq_true] at h
  have h1:=ih h.2
  have h2:1 ≤ q.1.length:=by
   have:=h.1
   unfold goodP tokS at this
   simp only [Bool.and_eq_true] at this
   cases hq:q.1 with
   | nil=>rw [hq] at this; simp at this
   | cons _ _=>simp
  rw [sumP_cons,List.length_cons]
  omega
theorem setV_at (S:ByteArray):∀ (L:List Fl) (r:Nat) (f:Fl),r = firstP (fun f=>!isCt f) L → L[r]? = some f → setV S.data.toList (L.map fl2) = (L.set r (f.1,S)).map fl2
 | [],r,f,_,h=>by simp at h
 | a :: L,r,f,hr,h=>by
  rw [List.map_cons]
  unfold setV
  unfold firstP at hr
  rw [List.takeWhile_cons] at hr
  have ht:isCt a = decide (smallS (fl2 a).1 = ctN):=rfl
  cases hq:isCt a with
  | true =>
   rw [hq] at ht hr
   obtain rfl:r = 0:=by simpa using hr
   obtain rfl:a = f:=by simpa using h
   rw [if_pos (of_decide_eq_true ht.symm),List.set_cons_zero,List.map_cons]
   rfl
  | false =>
   rw [hq] at ht hr
   rw [if_neg (of_decide_eq_false ht.symm)]
   obtain ⟨r',rfl⟩:∃ r',r = r'+1:=⟨(L.takeWhile (fun f=>!isCt f)).length,by simpa using hr⟩
   rw [List.set_cons_succ,List.map_cons,setV_at S L r' f (by unfold firstP; simpa using hr) (by simpa using h)]
theorem ct_in (L:List Fl) (q:List UInt8 × List PB) (hq:readK (saidB (L.map fl2) ctN) = some q):firstP (fun f=>!isCt f) L < L.length:=by
 by_cases hl:firstP (fun f=>!isCt f) L < L.length
 ·exact hl
 ·exfalso
  have hle:firstP (fun f=>!isCt f) L ≤ L.length:=by unfold firstP; exact (List.takeWhile_sublist _).length_le
  have hf:=filter_first (fun f=>!isCt f) L (by omega)
  have hn:getB (L.map fl2) ctN = none:=by
   unfold getB
   rw [List.find?_eq_none]
   intro x hx
   obtain ⟨y,hy,rfl⟩:=List.mem_map.1 hx
   have h2:=List.filter_eq_self.1 hf y hy
   simp only [isCt,Bool.not_eq_true',decide_eq_false_iff_not] at h2
   simp only [decide_eq_true_eq]
   exact h2
  unfold saidB at hq
  rw [hn] at hq
  have:readK [] = none:=by decide
  rw [show ((Option.map (fun x:PB=>x.2) none).getD []:List UInt8) = [] from rfl,this] at hq
  cases hq
theorem started_at (L P:List Fl) (q:List UInt8 × List PB) (m t id:ByteArray) (hK:kindB (L.map fl2) = q) (hm:m.data.toList = q.1) (hP:P.map pb2 = q.2) (ht:t.data.toList = angledB id.data.toList) :
  writeK m.data.toList (((P.filter fun f=>!isSt f)++[(stHd,t)]).map pb2) = startedB (L.map fl2) id.data.toList:=by
 unfold startedB
 rw [hK,hm,← hP]
 congr 1
 rw [List.map_append,List.filter_map]
 congr 1
 show [(stHd.data.toList,t.data.toList)] = _
 rw [ht]
 rfl
theorem startedF_good (P:List Fl) (q:List UInt8 × List PB) (t id:ByteArray) (hg:q.2.all goodP = true) (hP:P.map pb2 = q.2) (ht:t.data.toList = angledB id.data.toList) (hin:(angledB id.data.toList).all inC = true) :
  ((P.filter fun f=>!isSt f)++[(stHd,t)]).all goodF = true:=by
 rw [List.all_append,Bool.and_eq_true]
 constructor
 ·rw [List.all_eq_true]
  intro f hf
  rw [← hP,List.all_map,List.all_eq_true] at hg
  exact hg f (List.mem_filter.1 hf).1
 ·rw [List.all_cons,List.all_nil,Bool.and_true]
  show (tokS stHd.data.toList && decide (smallS stHd.data.toList = stHd.data.toList) && t.data.toList.all inC) = true
  rw [ht,hin]
  decide
theorem started_mid (P:List Fl) (t:ByteArray) (hl:P.length ≤ 7000) (hs:∀ f ∈ P,f.1.size+f.2.size+2 ≤ 20000) (ht:t.size ≤ 20002):Mid ((P.filter fun f=>!isSt f)++[(stHd,t)]):=by
 have hfl:(P.filter fun f=>!isSt f).length ≤ P.length:=List.length_filter_le _ _
 refine ⟨by rw [List.length_append]; simp only [List.length_cons,List.length_nil]; omega,fun f hf=>?_⟩
 rcases List.mem_append.1 hf with hf | hf
 ·have:=hs f (List.mem_filter.1 hf).1; omega
 ·rw [List.mem_singleton.1 hf]
  refine ⟨(by decide:stHd.size ≤ 24300),?_⟩
  show t.size ≤ _
  omega
set_option maxHeartbeats 600000 in
set_option maxRecDepth 100000 in
theorem withStart_any (v:Value) (L:List Fl) (id:ByteArray) (w:World) (q:List UInt8 × List PB) (hT:Hd L) (hF:FL w v L) (hm:Max w) (hq:readK (saidB (L.map fl2) ctN) = some q) (hs:(saidB (L.map fl2) ctN).length ≤ 20000) (hi:id.size ≤ 20000) (hin:(angledB id.data.toList).all inC = true) :
  Calls Tryz.prog 22 #[v,.string id] w fun e w'=>∃ u M,e = .returned (.tuple #[u,.nilIface])∧OwnF w' w.heap.size u M∧M.map fl2 = withStart (L.map fl2) id.data.toList∧M.length = L.length∧Below w.heap.size w w':=by
 obtain ⟨A,cap,hv,hcap,hcells⟩:=_root_.id hF
 subst hv
 have hw0:=hm.1
 have HD:=Box.mk hT
 have HT:=Box.mk hT.half.tiny
 have HF:=Box.mk hF
 have HM:=Box.mk hm
 have hlen:=hT.1
 have HQ:=Box.mk hq
 have hrl:=ct_in L q hq
 have hKq:kindB (L.map fl2) = q:=by unfold kindB; rw [hq]; rfl
 have hgd:=kind_good _ q.1 q.2 hq
 unfold goodK at hgd
 simp only [Bool.and_eq_true] at hgd
 have hsum:=xreadK_len _ q hq
 have hcnt:=sumP_count q.2 hgd.2
 have HMem:=Box.mk (sumP_mem q.2)
 have HG:=Box.mk hgd
 have HK:=Box.mk hKq
 clear hT hF hcells hm hq hgd hKq
 go_enter Tryz.func22,Tryz.ntmps22
 go_wp2_with fail
 refine (kindOf_any _ L _ HD.out HF.out HM.out).mono ?_
 rintro e w1 ⟨⟨m,v1,P,rfl,hm1,hP1,hO1,hPd,hms⟩,hb1⟩
 rw [HK.out] at hm1 hP1
 have HPt:=Box.mk hPd.half.tiny
 obtain ⟨A1,cap1,hv1⟩:∃ A1 cap1,v1 = .slice A1 P.length cap1:=by
  rcases hO1.shape with ⟨rfl,rfl⟩ | ⟨g,cap,rfl,_⟩
  ·exact ⟨_,_,rfl⟩
  ·exact ⟨_,_,rfl⟩
 subst hv1
 have HO1:=Box.mk hO1
 have hPl:P.length ≤ 7000:=by
  have:P.length = q.2.length:=by rw [← hP1,List.length_map]
  omega
 have HPs:Box (∀ f ∈ P,f.1.size+f.2.size+2 ≤ 20000):=⟨fun f hf=>by
  have:=HMem.out (pb2 f) (by rw [← hP1]; exact List.mem_map_of_mem hf)
  unfold pb2 at this
  simp only at this
  rw [size_list,size_list] at this
  omega⟩
 have hms2:m.size ≤ 20000:=by rw [← size_list,hm1]; omega
 have HMm:=Box.mk hm1
 have HP1:=Box.mk hP1
 clear hO1 hm1 hP1 HMem hPd hsum hcnt hs hms
 go_wp2_with fail
 refine (delSt_any _ P w.heap.size _ HPt.out HO1.out hb1.size isSt (fun n v w1 q hn hq=>clSt_any n v w1 q hn hq)).mono ?_
 rintro e w2 ⟨v2,rfl,hO2,hb2⟩
 have hb02:=hb1.trans hb2
 have hO2m:OwnQ w2 w.heap.size v2 (P.filter fun f=>!isSt f):=hO2
 obtain ⟨A2,cap2,hv2⟩:∃ A2 cap2,v2 = .slice A2 (P.filter fun f=>!isSt f).length cap2:=by
  rcases hO2m.shape with ⟨h1,h2⟩ | ⟨g,cap,h1,_⟩
  ·exact ⟨none,0,by rw [h1,h2]; rfl⟩
  ·exact ⟨_,_,h1⟩
 subst hv2
 have HO2:=Box.mk hO2
 clear hO2 hO2m HO1
 go_wp2_with fail
 refine (angled_any id _ (by omega)).mono ?_
 rintro e w3 ⟨t,rfl,ht,hts,hw3⟩
 obtain rfl:=hw3.symm
 have hfl:(P.filter fun f=>!isSt f).length ≤ P.length:=List.length_filter_le _ _
 have HMid:=Box.mk (started_mid P t (by omega) HPs.out (by omega))
 have HGF:=Box.mk (startedF_good P q t id HG.out.2 HP1.out ht hin)
 have HWK:=Box.mk (started_at L P q m t id HK.out HMm.out HP1.out ht)
 have hl2:(P.filter fun f=>!isSt f).length+1 ≤ 1000000:=by omega
 have hsz:=hb02.size
 generalize (P.filter fun f=>!isSt f) = N at HO2 HMid HGF HWK hfl hl2 ⊢
 clear ht hin HPs HP1 HPt hts
 go_wp2_with (at_builtin; refine wp_appQ _ w rfl (.tmp 21) (.tmp 25) rfl w.heap.size _ N rfl (World.ownsRow.alloc HO2.out _) _ _ (stHd,t) rfl (by simp; rfl) (by simp) hl2 (by simp; omega) (hb02.alloc hsz _) ?_; intro v4 w4 hO4 hb4)
 have HM4:=Box.mk (HM.out.below hb4 hw0)
 have HO4:=Box.mk hO4
 clear hO4 HO2 HM
 refine (kwrite_any m v4 (N++[(stHd,t)]) _ (by omega) HMid.out (OwnQ.fl HO4.out) HM4.out).mono ?_
 rintro e w5 ⟨hW,hb5⟩
 rcases hW with ⟨h,_⟩ | ⟨_,h,_⟩ | ⟨_,_,s5,rfl,hs5⟩
 ·rw [HMm.out,HG.out.1] at h; cases h
 ·exfalso
  have:firstQ (N++[(stHd,t)]) = (N++[(stHd,t)]).length:=firstP_full goodF _ HGF.out
  omega
 ·have HS5:Box (s5.data.toList = startedB (L.map fl2) id.data.toList):=⟨by rw [hs5,HWK.out]⟩
  have hb05:=hb4.trans (hb5.mono hb4.size)
  have HF5:=Box.mk (HF.out.below hb05 (Nat.le_refl _))
  clear hs5 HWK HGF HMid HO4 HM4 HG HMm HK
  go_wp2_with fail
  refine (clone_any _ L _ HT.out HF5.out).mono ?_
  rintro e w6 ⟨v6,rfl,hO6,hb6⟩
  have hb06:=hb05.trans (hb6.mono hb05.size)
  have hO6w:OwnF w6 w.heap.size v6 L:=OwnF.mono hO6 hb05.size
  rcases hO6w.shape with ⟨_,hL⟩ | ⟨g6,cap6,hv6,hBg,hgw,hcap6⟩
  ·rw [hL] at hrl; exact absurd hrl (by simp)
  subst hv6
  have HO6:=Box.mk hO6w
  clear hO6 hO6w
  go_wp2_with fail
  refine (idxTy_any _ L _ HT.out HO6.out.fl isCt (fun n v w1 q hn hq=>clTy_any n v w1 q hn hq)).mono ?_
  rintro e w7 ⟨hI,hb7⟩
  have hb07:=hb06.trans (hb7.mono hb06.size)
  obtain ⟨r,HR⟩:∃ r,Box (r = firstP (fun f=>!isCt f) L):=⟨_,⟨rfl⟩⟩
  rw [← HR.out] at hI hrl
  rcases hI with ⟨_,rfl⟩ | ⟨hI,_⟩
  ·have HO7:=Box.mk (HO6.out.below hb7 (Nat.le_refl _))
   obtain ⟨x0,x1,x2⟩:=HO7.out.cell r hrl
   have HO8:=Box.mk (HO7.out.set r hrl s5)
   have HE:Box ((L.set r (L[r].1,s5)).map fl2 = withStart (L.map fl2) id.data.toList):=⟨by
    unfold withStart
    rw [← HS5.out]
    exact (setV_at s5 L r L[r] HR.out (List.getElem?_eq_getElem hrl)).symm⟩
   have hln:(L.set r (L[r].1,s5)).length = L.length:=List.length_set
   have HLN:=Box.mk hln
   clear hln HS5 HO6 HO7 HF5 HF HR hb7 hb6 hb5
   go_wp2
   go_ret2
   exact ⟨_,_,rfl,HO8.out,HE.out,HLN.out,Below.setCell hb07 (by exact hBg) _⟩
  ·omega
end Go.Proofs.YtknhacbfddggpaaGreatDoor
