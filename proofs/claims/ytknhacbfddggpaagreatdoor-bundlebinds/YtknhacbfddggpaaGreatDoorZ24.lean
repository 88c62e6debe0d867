import Derived.Test.YtknhacbfddggpaaGreatDoorZ23
import Derived.Test.YtknhacbfddggpaaGreatDoorZ22
import Derived.Deep.QuietTactic
namespace Go.Proofs.YtknhacbfddggpaaGreatDoor
open Go.RowKit
abbrev obj4 (v0 v1 v2 v3:Value):Obj:=.cells #[v0,v1,v2,v3] 44
theorem b2_of {w:World} {b:Nat} {v0 v1:Value} {t:TypeId} (h:w.heap[b]? = some (.cells #[v0,v1] t (0,0))):w.cell? ⟨b,0,none⟩ = some v0∧w.cell? ⟨b,1,none⟩ = some v1∧∀ i,w.frozen? ⟨b,i,none⟩ = false:=
 ⟨by simp [World.cell?,h],by simp [World.cell?,h],fun i=>by simp [World.frozen?,h]⟩
def InP (W w':World):Prop:=Below W.heap.size W w'
theorem InP.step {W w1 w2:World} (h:InP W w1) (hb:Below w1.heap.size w1 w2):InP W w2:=Below.trans h (hb.mono (Below.size h))
theorem InP.draw (W:World):InP W { W with drawn:=W.drawn+1 }:=(Below.refl W.heap.size W).drew
theorem InP.blk {W w':World} (h:InP W w') {b:Nat} {o:Obj} (ho:W.heap[b]? = some o):w'.heap[b]? = some o:=(Below.block h b (Array.getElem?_eq_some_iff.1 ho).1).trans ho
theorem InP.cell {W w':World} (h:InP W w') {p:Addr} {v:Value} (ho:W.cell? p = some v):w'.cell? p = some v:=(Below.cell h (p:=p) (World.block_lt_of_cell? W _ ho)).trans ho
end Go.Proofs.YtknhacbfddggpaaGreatDoor
namespace Go.Proofs.YtknhacbfddggpaaGreatDoor
open Go.RowKit
def smallA (s:ByteArray):ByteArray:=⟨(smallS s.data.toList).toArray⟩
theorem smallA_list (s:ByteArray):(smallA s).data.toList = smallS s.data.toList:=by simp [smallA]
abbrev objF (n v:ByteArray):Obj:=.cells #[.string n,.string v] 75
set_option maxHeartbeats 1000000 in
set_option maxRecDepth 100000 in
theorem isNamed_cte (n v:ByteArray) (w:World) (hn:n.size ≤ 1000000) (hN:Names w) (q:Bool) (hq:decide (smallS n.data.toList = cteN) = q) :
  Calls Tryz.prog 153 #[.agg #[.string n,.string v],.int .i64 1] w fun e w'=>e = .returned (.bool q)∧Below w.heap.size w w':=by
 have hb0:=below_oneP w (objF n v)
 have hk:=heap_oneP w (objF n v)
 have hN1:=hN.below hb0 hN.lt
 have HE:((smallA n).toList == (smallA cteA).toList) = q:=by
  rw [ByteArray.toList_eq,ByteArray.toList_eq,smallA_list,smallA_list,show smallS cteA.data.toList = cteN by decide,← hq,Bool.eq_iff_iff,beq_iff_eq,decide_eq_true_eq]
 have hc0:∀ w',InP (w.alloc (objF n v)) w' → w'.cell? ⟨w.heap.size,0,none⟩ = some (.string n):=fun w' hw'=>(b2_of (InP.blk hw' hk)).1
 have hc1:∀ w',InP (w.alloc (objF n v)) w' → w'.cell? ⟨1,1,none⟩ = some (.string cteA):=fun w' hw'=>InP.cell hw' hN1.c1
 clear hN hN1 hk hq
 generalize hA:smallA n = A at HE
 generalize hB:smallA cteA = B at HE
 have hA':Box (smallA n = A):=⟨hA⟩
 have hB':Box (smallA cteA = B):=⟨hB⟩
 clear hA hB
 go_enter Tryz.func153,Tryz.ntmps153
 go_wp2
 refine wp_region_quiet (C:=InP (w.alloc (objF n v))) (by kernel_rfl) (by kernel_rfl) (InP.draw _) ?_
 refine quiet_do rfl (.pointer (some ⟨w.heap.size,0,none⟩)) (fun w' hw'=>quietAt_ok (by go_simp)) ?_
 go_simp
 refine quiet_do rfl (.string n) (fun w' hw'=>quietAt_ok (by have:=hc0 w' hw'; go_simp)) ?_
 go_simp
 refine quiet_do rfl (.string A) (fun w' hw'=>quietAt_call (f:=75) (args:=#[.string n]) (by go_simp) ((small_any n w' (by omega)).mono fun e w'' h=>⟨by rw [h.1,← hA'.out]; rfl,InP.step hw' h.2⟩)) ?_
 go_simp
 refine quiet_do rfl (.int .i64 1) (fun w' hw'=>quietAt_ok (by go_simp)) ?_
 go_simp
 refine quiet_do rfl (.pointer (some ⟨1,1,none⟩)) (fun w' hw'=>quietAt_ok (by go_simp)) ?_
 go_simp
 refine quiet_do rfl (.string cteA) (fun w' hw'=>quietAt_ok (by have:=hc1 w' hw'; go_simp)) ?_
 go_simp
 refine quiet_do rfl (.string B) (fun w' hw'=>quietAt_call (f:=75) (args:=#[.string cteA]) (by go_simp) ((small_any cteA w' (by decide)).mono fun e w'' h=>⟨by rw [h.1,← hB'.out]; rfl,InP.step hw' h.2⟩)) ?_
 go_simp
 refine quiet_do rfl (.bool q) (fun w' hw'=>quietAt_ok (by go_simp)) ?_
 go_simp
 refine quiet_do rfl (.bool q) (fun w' hw'=>quietAt_ok (by go_simp)) ?_
 go_simp
 refine wpQuiet_nil ?_
 intro w9 hw9
 go_wp2
 go_ret
 exact ⟨rfl,hb0.trans (Below.mono hw9 hb0.size)⟩
set_option maxHeartbeats 1000000 in
theorem clCode_any (n v:ByteArray) (w:World) (hn:n.size ≤ 1000000) (hN:Names w) (q:Bool) (hq:decide (smallS n.data.toList = cteN) = q) :
  Calls Tryz.prog 152 #[.agg #[.string n,.string v]] w fun e w'=>e = .returned (.bool q)∧Below w.heap.size w w':=by
 have hb0:=below_oneP w (objF n v)
 have HN:=Box.mk (hN.below hb0 hN.lt)
 have HQ:=Box.mk hq
 clear hN hq
 go_enter Tryz.func152,Tryz.ntmps152
 go_wp2_with fail
 refine (isNamed_cte n v _ hn HN.out q HQ.out).mono ?_
 rintro e w1 ⟨rfl,hb1⟩
 go_wp2
 go_ret
 exact ⟨rfl,hb0.trans (hb1.mono hb0.size)⟩
set_option maxHeartbeats 1000000 in
set_option maxRecDepth 100000 in
theorem isNamed_ct (n v:ByteArray) (w:World) (hn:n.size ≤ 1000000) (hN:Names w) (q:Bool) (hq:decide (smallS n.data.toList = ctN) = q) :
  Calls Tryz.prog 153 #[.agg #[.string n,.string v],.int .i64 0] w fun e w'=>e = .returned (.bool q)∧Below w.heap.size w w':=by
 have hb0:=below_oneP w (objF n v)
 have hk:=heap_oneP w (objF n v)
 have hN1:=hN.below hb0 hN.lt
 have HE:((smallA n).toList == (smallA ctB).toList) = q:=by
  rw [ByteArray.toList_eq,ByteArray.toList_eq,smallA_list,smallA_list,show smallS ctB.data.toList = ctN by decide,← hq,Bool.eq_iff_iff,beq_iff_eq,decide_eq_true_eq]
 have hc0:∀ w',InP (w.alloc (objF n v)) w' → w'.cell? ⟨w.heap.size,0,none⟩ = some (.string n):=fun w' hw'=>(b2_of (InP.blk hw' hk)).1
 have hc1:∀ w',InP (w.alloc (objF n v)) w' → w'.cell? ⟨1,0,none⟩ = some (.string ctB):=fun w' hw'=>InP.cell hw' hN1.c0
 clear hN hN1 hk hq
 generalize hA:smallA n = A at HE
 generalize hB:smallA ctB = B at HE
 have hA':Box (smallA n = A):=⟨hA⟩
 have hB':Box (smallA ctB = B):=⟨hB⟩
 clear hA hB
 go_enter Tryz.func153,Tryz.ntmps153
 go_wp2
 refine wp_region_quiet (C:=InP (w.alloc (objF n v))) (by kernel_rfl) (by kernel_rfl) (InP.draw _) ?_
 refine quiet_do rfl (.pointer (some ⟨w.heap.size,0,none⟩)) (fun w' hw'=>quietAt_ok (by go_simp)) ?_
 go_simp
 refine quiet_do rfl (.string n) (fun w' hw'=>quietAt_ok (by have:=hc0 w' hw'; go_simp)) ?_
 go_simp
 refine quiet_do rfl (.string A) (fun w' hw'=>quietAt_call (f:=75) (args:=#[.string n]) (by go_simp) ((small_any n w' (by omega)).mono fun e w'' h=>⟨by rw [h.1,← hA'.out]; rfl,InP.step hw' h.2⟩)) ?_
 go_simp
 refine quiet_do rfl (.int .i64 0) (fun w' hw'=>quietAt_ok (by go_simp)) ?_
 go_simp
 refine quiet_do rfl (.pointer (some ⟨1,0,none⟩)) (fun w' hw'=>quietAt_ok (by go_simp)) ?_
 go_simp
 refine quiet_do rfl (.string ctB) (fun w' hw'=>quietAt_ok (by have:=hc1 w' hw'; go_simp)) ?_
 go_simp
 refine quiet_do rfl (.string B) (fun w' hw'=>quietAt_call (f:=75) (args:=#[.string ctB]) (by go_simp) ((small_any ctB w' (by decide)).mono fun e w'' h=>⟨by rw [h.1,← hB'.out]; rfl,InP.step hw' h.2⟩)) ?_
 go_simp
 refine quiet_do rfl (.bool q) (fun w' hw'=>quietAt_ok (by go_simp)) ?_
 go_simp
 refine quiet_do rfl (.bool q) (fun w' hw'=>quietAt_ok (by go_simp)) ?_
 go_simp
 refine wpQuiet_nil ?_
 intro w9 hw9
 go_wp2
 go_ret
 exact ⟨rfl,hb0.trans (Below.mono hw9 hb0.size)⟩
set_option maxHeartbeats 1000000 in
theorem clType_any (n v:ByteArray) (w:World) (hn:n.size ≤ 1000000) (hN:Names w) (q:Bool) (hq:decide (smallS n.data.toList = ctN) = q) :
  Calls Tryz.prog 188 #[.agg #[.string n,.string v]] w fun e w'=>e = .returned (.bool q)∧Below w.heap.size w w':=by
 have hb0:=below_oneP w (objF n v)
 have HN:=Box.mk (hN.below hb0 hN.lt)
 have HQ:=Box.mk hq
 clear hN hq
 go_enter Tryz.func188,Tryz.ntmps188
 go_wp2_with fail
 refine (isNamed_ct n v _ hn HN.out q HQ.out).mono ?_
 rintro e w1 ⟨rfl,hb1⟩
 go_wp2
 go_ret
 exact ⟨rfl,hb0.trans (hb1.mono hb0.size)⟩
abbrev objQ (n v:ByteArray):Obj:=.cells #[.string n,.string v] 103
theorem clBound_any (n v:ByteArray) (w:World) (q:Bool) (hq:decide (n.data.toList = bdN) = q) :
  Calls Tryz.prog 189 #[.agg #[.string n,.string v]] w fun e w'=>e = .returned (.bool q)∧Below w.heap.size w w':=by
 have hb0:=below_oneP w (objQ n v)
 have HE:(n.toList == [98,111,117,110,100,97,114,121]) = q:=by
  rw [ByteArray.toList_eq,← hq,Bool.eq_iff_iff,beq_iff_eq,decide_eq_true_eq]; rfl
 clear hq
 go_enter Tryz.func189,Tryz.ntmps189
 go_wp2
 go_ret
 exact ⟨rfl,hb0⟩
end Go.Proofs.YtknhacbfddggpaaGreatDoor
namespace Go.Proofs.YtknhacbfddggpaaGreatDoor
open Go.RowKit
def IxPost (r n:Nat) (e:Ending):Prop:=(r < n∧e = .returned (.int .i64 r)) ∨ (r = n∧e = .returned (.int .i64 (-1)))
def isCte (f:Fl):Bool:=decide (smallS f.1.data.toList = cteN)
def isCt (f:Fl):Bool:=decide (smallS f.1.data.toList = ctN)
def isBd (f:Fl):Bool:=decide (f.1.data.toList = bdN)
theorem firstP_full (p:Fl → Bool) (L:List Fl) (h:L.all p = true):firstP p L = L.length:=by
 unfold firstP
 induction L with
 | nil=>rfl
 | cons f L ih =>
  simp only [List.all_cons,Bool.and_eq_true] at h
  rw [List.takeWhile_cons,if_pos h.1,List.length_cons,ih h.2,List.length_cons]
set_option maxHeartbeats 1600000 in
set_option maxRecDepth 100000 in
theorem idxCode_any (v:Value) (L:List Fl) (w:World) (hT:Tiny L) (hF:FL w v L) (hN:Names w) :
  Calls Tryz.prog 54 #[v,.func (.func 152) #[] #[]] w fun e w'=>IxPost (firstP (fun f=>!isCte f) L) L.length e∧Below w.heap.size w w':=by
 obtain ⟨A,cap,rfl,hcap,hcells⟩:=hF
 have HC:=Box.mk hcells
 have hlen:=hT.1
 have HT:=Box.mk hT
 have HN:=Box.mk hN
 obtain ⟨R,HR⟩:∃ R,Box (R = firstP (fun f=>!isCte f) L):=⟨_,⟨rfl⟩⟩
 rw [← HR.out]
 clear hcells hT hN
 go_enter Tryz.func54,Tryz.ntmps54
 go_wp2
 go_loopw [8] (fun i wr=>∃ k:Nat,k ≤ L.length∧i = .int .i64 k∧Below w.heap.size w wr∧Box ((L.take k).all (fun f=>!isCte f) = true)) (fun i _=>L.length - (intOf i).toNat)
 case atStart=>exact ⟨0,Nat.zero_le _,rfl,Below.refl _ _,⟨by simp⟩⟩
 case round =>
  obtain ⟨k,hk,rfl,hb,HA⟩:=hrel
  by_cases hlt:k < L.length
  ·obtain ⟨b,off,n,v,rfl,HN2,hn,hv,hbl,d0,d1⟩:=HC.out.elem HT.out hb k hlt
   have hcl:Calls Tryz.prog 152 #[.agg #[.string n,.string v]] wr fun e w'=>e = .returned (.bool (isCte (n,v)))∧Below wr.heap.size wr w':=clCode_any n v wr hn (HN.out.below hb HN.out.lt) _ rfl
   have HCL:=Box.mk hcl
   cases hq:isCte (n,v)
   ·have HA':Box ((L.take (k+1)).all (fun f=>!isCte f) = true):=⟨by
     rw [take_snocF L k _ HN2.out,List.all_append,HA.out]
     simp only [List.all_cons,List.all_nil,hq]; rfl⟩
    rw [hq] at HCL
    clear HC HT HA HN2 hq hcl
    go_wp2_with fail
    refine HCL.out.mono ?_
    rintro e w1 ⟨rfl,hb1⟩
    clear HCL
    go_wp2
    go_roundw
    case rel=>exact ⟨k+1,by omega,by go_num,hb.trans (hb1.mono hb.size),HA'⟩
    case measure=>simp [intOf]; omega
   ·have HE:Box (R = k):=⟨by rw [HR.out]; exact firstP_stop _ L k _ HN2.out HA.out (by simp only [hq]; rfl)⟩
    rw [hq] at HCL
    clear HC HT HA HN2 hq hcl
    go_wp2_with fail
    refine HCL.out.mono ?_
    rintro e w1 ⟨rfl,hb1⟩
    clear HCL
    go_wp2
    go_ret
    exact ⟨by rw [HE.out]; exact .inl ⟨hlt,rfl⟩,hb.trans (hb1.mono hb.size)⟩
  ·have HE:Box (R = L.length):=⟨by
    have h1:=HA.out
    rw [List.take_of_length_le (by omega)] at h1
    rw [HR.out]; exact firstP_full _ L h1⟩
   clear HC HT HA
   go_wp2
   go_ret
   exact ⟨by rw [HE.out]; exact .inr ⟨rfl,rfl⟩,hb⟩
set_option maxHeartbeats 1600000 in
set_option maxRecDepth 100000 in
theorem idxType_any (v:Value) (L:List Fl) (w:World) (hT:Tiny L) (hF:FL w v L) (hN:Names w) :
  Calls Tryz.prog 54 #[v,.func (.func 188) #[] #[]] w fun e w'=>IxPost (firstP (fun f=>!isCt f) L) L.length e∧Below w.heap.size w w':=by
 obtain ⟨A,cap,rfl,hcap,hcells⟩:=hF
 have HC:=Box.mk hcells
 have hlen:=hT.1
 have HT:=Box.mk hT
 have HN:=Box.mk hN
 obtain ⟨R,HR⟩:∃ R,Box (R = firstP (fun f=>!isCt f) L):=⟨_,⟨rfl⟩⟩
 rw [← HR.out]
 clear hcells hT hN
 go_enter Tryz.func54,Tryz.ntmps54
 go_wp2
 go_loopw [8] (fun i wr=>∃ k:Nat,k ≤ L.length∧i = .int .i64 k∧Below w.heap.size w wr∧Box ((L.take k).all (fun f=>!isCt f) = true)) (fun i _=>L.length - (intOf i).toNat)
 case atStart=>exact ⟨0,Nat.zero_le _,rfl,Below.refl _ _,⟨by simp⟩⟩
 case round =>
  obtain ⟨k,hk,rfl,hb,HA⟩:=hrel
  by_cases hlt:k < L.length
  ·obtain ⟨b,off,n,v,rfl,HN2,hn,hv,hbl,d0,d1⟩:=HC.out.elem HT.out hb k hlt
   have hcl:Calls Tryz.prog 188 #[.agg #[.string n,.string v]] wr fun e w'=>e = .returned (.bool (isCt (n,v)))∧Below wr.heap.size wr w':=clType_any n v wr hn (HN.out.below hb HN.out.lt) _ rfl
   have HCL:=Box.mk hcl
   cases hq:isCt (n,v)
   ·have HA':Box ((L.take (k+1)).all (fun f=>!isCt f) = true):=⟨by
     rw [take_snocF L k _ HN2.out,List.all_append,HA.out]
     simp only [List.all_cons,List.all_nil,hq]; rfl⟩
    rw [hq] at HCL
    clear HC HT HA HN2 hq hcl
    go_wp2_with fail
    refine HCL.out.mono ?_
    rintro e w1 ⟨rfl,hb1⟩
    clear HCL
    go_wp2
    go_roundw
    case rel=>exact ⟨k+1,by omega,by go_num,hb.trans (hb1.mono hb.size),HA'⟩
    case measure=>simp [intOf]; omega
   ·have HE:Box (R = k):=⟨by rw [HR.out]; exact firstP_stop _ L k _ HN2.out HA.out (by simp only [hq]; rfl)⟩
    rw [hq] at HCL
    clear HC HT HA HN2 hq hcl
    go_wp2_with fail
    refine HCL.out.mono ?_
    rintro e w1 ⟨rfl,hb1⟩
    clear HCL
    go_wp2
    go_ret
    exact ⟨by rw [HE.out]; exact .inl ⟨hlt,rfl⟩,hb.trans (hb1.mono hb.size)⟩
  ·have HE:Box (R = L.length):=⟨by
    have h1:=HA.out
    rw [List.take_of_length_le (by omega)] at h1
    rw [HR.out]; exact firstP_full _ L h1⟩
   clear HC HT HA
   go_wp2
   go_ret
   exact ⟨by rw [HE.out]; exact .inr ⟨rfl,rfl⟩,hb⟩
set_option maxHeartbeats 1600000 in
set_option maxRecDepth 100000 in
theorem idxBound_any (v:Value) (L:List Fl) (w:World) (hT:Tiny L) (hF:FL w v L) :
  Calls Tryz.prog 90 #[v,.func (.func 189) #[] #[]] w fun e w'=>IxPost (firstP (fun f=>!isBd f) L) L.length e∧Below w.heap.size w w':=by
 obtain ⟨A,cap,rfl,hcap,hcells⟩:=hF
 have HC:=Box.mk hcells
 have hlen:=hT.1
 have HT:=Box.mk hT
 obtain ⟨R,HR⟩:∃ R,Box (R = firstP (fun f=>!isBd f) L):=⟨_,⟨rfl⟩⟩
 rw [← HR.out]
 clear hcells hT
 go_enter Tryz.func90,Tryz.ntmps90
 go_wp2
 go_loopw [8] (fun i wr=>∃ k:Nat,k ≤ L.length∧i = .int .i64 k∧Below w.heap.size w wr∧Box ((L.take k).all (fun f=>!isBd f) = true)) (fun i _=>L.length - (intOf i).toNat)
 case atStart=>exact ⟨0,Nat.zero_le _,rfl,Below.refl _ _,⟨by simp⟩⟩
 case round =>
  obtain ⟨k,hk,rfl,hb,HA⟩:=hrel
  by_cases hlt:k < L.length
  ·obtain ⟨b,off,n,v,rfl,HN2,hn,hv,hbl,d0,d1⟩:=HC.out.elem HT.out hb k hlt
   have hcl:Calls Tryz.prog 189 #[.agg #[.string n,.string v]] wr fun e w'=>e = .returned (.bool (isBd (n,v)))∧Below wr.heap.size wr w':=clBound_any n v wr _ rfl
   have HCL:=Box.mk hcl
   cases hq:isBd (n,v)
   ·have HA':Box ((L.take (k+1)).all (fun f=>!isBd f) = true):=⟨by
     rw [take_snocF L k _ HN2.out,List.all_append,HA.out]
     simp only [List.all_cons,List.all_nil,hq]; rfl⟩
    rw [hq] at HCL
    clear HC HT HA HN2 hq hcl
    go_wp2_with fail
    refine HCL.out.mono ?_
    rintro e w1 ⟨rfl,hb1⟩
    clear HCL
    go_wp2
    go_roundw
    case rel=>exact ⟨k+1,by omega,by go_num,hb.trans (hb1.mono hb.size),HA'⟩
    case measure=>simp [intOf]; omega
   ·have HE:Box (R = k):=⟨by rw [HR.out]; exact firstP_stop _ L k _ HN2.out HA.out (by simp only [hq]; rfl)⟩
    rw [hq] at HCL
    clear HC HT HA HN2 hq hcl
    go_wp2_with fail
    refine HCL.out.mono ?_
    rintro e w1 ⟨rfl,hb1⟩
    clear HCL
    go_wp2
    go_ret
    exact ⟨by rw [HE.out]; exact .inl ⟨hlt,rfl⟩,hb.trans (hb1.mono hb.size)⟩
  ·have HE:Box (R = L.length):=⟨by
    have h1:=HA.out
    rw [List.take_of_length_le (by omega)] at h1
    rw [HR.out]; exact firstP_full _ L h1⟩
   clear HC HT HA
   go_wp2
   go_ret
   exact ⟨by rw [HE.out]; exact .inr ⟨rfl,rfl⟩,hb⟩
end Go.Proofs.YtknhacbfddggpaaGreatDoor
