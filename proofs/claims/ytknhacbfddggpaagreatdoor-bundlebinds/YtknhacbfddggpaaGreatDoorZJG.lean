import Derived.Test.YtknhacbfddggpaaGreatDoorZ5
import Derived.Test.YtknhacbfddggpaaGreatDoorZ15
namespace Go.Proofs.YtknhacbfddggpaaGreatDoor
open Go.RowKit
def getP (L:List Fl) (s:List UInt8):Option Fl:=L.find? fun f=>decide (f.1.data.toList = s)
theorem getP_hit (L:List Fl) (s:List UInt8) (k:Nat) (f:Fl) (hk:L[k]? = some f) (h:∀ g ∈ L.take k,g.1.data.toList ≠ s) (h':f.1.data.toList = s):getP L s = some f:=by
 unfold getP
 rw [← List.take_append_drop k L,List.find?_append,List.find?_eq_none.2 (fun g hg=>by simpa using h g hg)]
 have hl:=(List.getElem?_eq_some_iff.1 hk).1
 rw [List.drop_eq_getElem_cons hl,(List.getElem?_eq_some_iff.1 hk).2]
 simp [h']
theorem getP_none (L:List Fl) (s:List UInt8) (h:∀ g ∈ L,g.1.data.toList ≠ s):getP L s = none:=by
 unfold getP
 rw [List.find?_eq_none]
 exact fun g hg=>by simpa using h g hg
set_option maxHeartbeats 1600000 in
set_option maxRecDepth 100000 in
theorem kget_any (v:Value) (L:List Fl) (s:ByteArray) (w:World) (hT:Tiny L) (hF:FL w v L) :
  Calls Tryz.prog 43 #[v,.string s] w fun e w'=>e = .returned (getV (getP L s.data.toList))∧Below w.heap.size w w':=by
 obtain ⟨G,HG⟩:∃ G,Box (G = getP L s.data.toList):=⟨_,⟨rfl⟩⟩
 rw [← HG.out]
 obtain ⟨A,cap,rfl,hcap,hcells⟩:=hF
 have HC:=Box.mk hcells
 have hlen:=hT.1
 have HT:=Box.mk hT
 clear hcells hT
 go_enter Tryz.func43,Tryz.ntmps43
 go_wp2
 go_loopw [10] (fun i wr=>∃ k:Nat,k ≤ L.length∧i = .int .i64 k∧Below w.heap.size w wr∧Box (∀ g ∈ L.take k,g.1.data.toList ≠ s.data.toList)) (fun i _=>L.length - (intOf i).toNat)
 case atStart=>exact ⟨0,Nat.zero_le _,rfl,Below.refl _ _,⟨fun g hg=>absurd hg (by simp)⟩⟩
 case round =>
  obtain ⟨k,hk,rfl,hb,HA⟩:=hrel
  have hsz:=hb.size
  by_cases hlt:k < L.length
  ·obtain ⟨b,off,n,v,rfl,HN,hn,hv,hbl,d0,d1⟩:=HC.out.elem HT.out hb k hlt
   have hb2:=hb.alloc hsz (.cells #[.string n,.string v] 103)
   clear HC HT
   by_cases hm:n.data.toList = s.data.toList
   ·have hq:(n.toList == s.toList) = true:=str_eq hm
    have HF:Box (G = some (n,v)):=⟨by rw [HG.out]; exact getP_hit L _ k _ HN.out HA.out hm⟩
    clear HN HA HG hm
    go_wp2
    go_ret2
    exact ⟨by rw [HF.out]; rfl,hb2⟩
   ·have hq:(n.toList == s.toList) = false:=str_ne hm
    have HA':Box (∀ g ∈ L.take (k+1),g.1.data.toList ≠ s.data.toList):=⟨fun g hg=>by
     rw [take_snocF L k _ HN.out] at hg
     rcases List.mem_append.1 hg with h | h
     ·exact HA.out g h
     ·obtain rfl:=List.mem_singleton.1 h
      exact hm⟩
    clear HN HA HG hm
    go_wp2
    go_roundw
    case rel=>exact ⟨k+1,by omega,by go_num,hb2,HA'⟩
    case measure=>simp [intOf]; omega
  ·have HF:Box (G = none):=⟨by rw [HG.out]; exact getP_none L _ (by have:=HA.out; rw [List.take_of_length_le (by omega)] at this; exact this)⟩
   clear HA HC HT HG
   go_wp2
   go_ret2
   exact ⟨by rw [HF.out]; rfl,hb⟩
end Go.Proofs.YtknhacbfddggpaaGreatDoor
