import Derived.Test.YtkldkhdigkpniaaGreatDoorZ5
import Derived.Test.YtkldkhdigkpniaaGreatDoorZ15
set_option maxHeartbeats 1600000
set_option maxRecDepth 100000
open List renaming find?_eq_none → GL, getElem?_eq_some_iff → VQ
namespace Go.Proofs.YtkldkhdigkpniaaGreatDoor
open Go.RowKit Go.Proofs.Tryz
def ve(L:List Fl)(s:aa):Option Fl:=L.find? fun f=>decide (f.1.data.toList=s)
theorem Vv(L:List Fl)(s:aa)(k:Nat)(f:Fl)(hk:L[k]?=some f)(h:∀g∈L.take k,g.1.data.toList≠s)(h':f.1.data.toList=s):ve L s=some f:=by
 unfold ve
 rw[<-List.take_append_drop k L,List.find?_append,GL.2 (fun g hg=>by simpa using h g hg)]
 have hl:=(VQ.1 hk).1
 rw[List.drop_eq_getElem_cons hl,(VQ.1 hk).2]
 simp[h']
theorem QL(L:List Fl)(s:aa)(h:∀g∈L,g.1.data.toList≠s):ve L s=none:=by
 unfold ve
 rw[GL]
 exact fun g hg=>by simpa using h g hg
theorem JH(v:Value)(L:List Fl)(s:ByteArray)(w:World)(hT:lW L)(hF:FL w v L):
  Calls prog 165 #[v,.string s] w fun e w'=>e=.returned (J3 (ve L s.data.toList))/\Below w.heap.size w w':=by
 obtain⟨G,HG⟩:∃G,Box (G=ve L s.data.toList):=⟨_,⟨rfl⟩⟩
 rw[<-HG.o]
 obtain⟨A,cap,rfl,hcap,hcells⟩:=hF
 have HC:=Box.m hcells
 have hlen:=hT.1
 have HT:=Box.m hT
 clear hcells hT
 go_enter func165,ntmps165
 go_wp2
 go_loopw [10] (fun i wr=>∃k:Nat,k<=L.length/\i=.int .i64 k/\Below w.heap.size w wr/\Box (∀g∈L.take k,g.1.data.toList≠s.data.toList)) (fun i _=>L.length - (intOf i).toNat)
 case atStart=>exact⟨0,Nat.zero_le _,rfl,Below.refl _ _,⟨fun g hg=>absurd hg (by simp)⟩⟩
 case round=>
  obtain⟨k,hk,rfl,hb,HA⟩:=hrel
  have hsz:=hb.size
  by_cases hlt:k<L.length
  ·obtain⟨b,off,n,v,rfl,HN,hn,hv,hbl,d0,d1⟩:=HC.o.elem HT.o hb k hlt
   have hb2:=hb.alloc hsz (.cells #[.string n,.string v] 125)
   clear HC HT
   by_cases hm:n.data.toList=s.data.toList
   ·have hq:(n.toList==s.toList)=true:=LV hm
    have HF:Box (G=some (n,v)):=⟨by rw[HG.o];exact Vv L _ k _ HN.o HA.o hm⟩
    clear HN HA HG hm
    go_wp2
    go_ret2
    exact⟨by rw[HF.o];rfl,hb2⟩
   ·have hq:(n.toList==s.toList)=false:=K4 hm
    have HA':Box (∀g∈L.take (k+1),g.1.data.toList≠s.data.toList):=⟨fun g hg=>by
     rw[bV L k _ HN.o]at hg
     rcases List.mem_append.1 hg with h|h
     ·exact HA.o g h
     ·obtain rfl:=List.mem_singleton.1 h
      exact hm⟩
    clear HN HA HG hm
    go_wp2
    go_roundw
    case rel=>exact⟨k+1,by omega,by go_num,hb2,HA'⟩
    case measure=>simp[intOf];omega
  ·have HF:Box (G=none):=⟨by rw[HG.o];exact QL L _ (by have:=HA.o;rw[List.take_of_length_le (by omega)]at this;exact this)⟩
   clear HA HC HT HG
   go_wp2
   go_ret2
   exact⟨by rw[HF.o];rfl,hb⟩
end Go.Proofs.YtkldkhdigkpniaaGreatDoor
