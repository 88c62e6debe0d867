import Derived.Test.YtknhacbfddggpaaGreatDoorZ18
import Derived.Test.YtknhacbfddggpaaGreatDoorZ2
import Derived.Lib.CountLaws
import Derived.Lib.SplitLaws
import Derived.Lib.ReplaceLaws
import Derived.Test.YtknhacbfddggpaaGreatDoorZ5
namespace Go.Proofs.YtknhacbfddggpaaGreatDoor
open Go.RowKit
theorem index_cons_ne (b c:UInt8) (l:List UInt8) (h:b ≠ c):Lib.index (b :: l) [c] = if Lib.index l [c] = -1 then -1 else Lib.index l [c]+1:=by
 rw [index_one,index_one,Lib.indexByte]
 have h1:(b == c) = false:=by simpa using h
 rw [h1]
 simp
theorem replaceK_cons_ne (c:UInt8) (new:List UInt8):∀ (k:Nat) (b:UInt8) (l:List UInt8),b ≠ c → k ≤ Lib.count l [c] → Lib.replaceK [c] new k (b :: l) = b :: Lib.replaceK [c] new k l:=by
 intro k b l hb hk
 cases k with
 | zero=>rfl
 | succ k =>
  obtain ⟨i,hi⟩:=Lib.index_of_count (s:=l) (old:=[c]) (by omega)
  have h1:Lib.index (b :: l) [c] = ((i+1:Nat):Int):=by
   rw [index_cons_ne b c l hb,hi,if_neg (by omega)]; omega
  rw [Lib.replaceK_hit [c] new k (b :: l) (i+1) h1,Lib.replaceK_hit [c] new k l i hi]
  simp
theorem replaceK_cons_eq (c:UInt8) (new:List UInt8) (k:Nat) (l:List UInt8):Lib.replaceK [c] new (k+1) (c :: l) = new++Lib.replaceK [c] new k l:=by
 have h1:Lib.index (c :: l) [c] = ((0:Nat):Int):=by
  rw [index_one,Lib.indexByte]; simp
 rw [Lib.replaceK_hit [c] new k (c :: l) 0 h1]
 simp
def dbl (c:UInt8) (new:List UInt8) (d:UInt8):List UInt8:=if d = c then new else [d]
theorem replaceK_flat (c:UInt8) (new:List UInt8) (l:List UInt8):Lib.replaceK [c] new (Lib.count l [c]) l = l.flatMap (dbl c new):=by
 induction l with
 | nil =>
  have:Lib.count [] [c] = 0:=by rw [Lib.count_one]; rfl
  rw [this]; rfl
 | cons d l ih =>
  by_cases hd:d = c
  ·subst hd
   rw [Lib.count_cons_eq,Nat.add_comm,replaceK_cons_eq,ih,List.flatMap_cons]
   simp [dbl]
  ·rw [Lib.count_cons_ne d c l hd,replaceK_cons_ne c new _ d l hd (Nat.le_refl _),ih,List.flatMap_cons]
   simp [dbl,hd]
theorem replace_flat (c:UInt8) (new:List UInt8) (l:List UInt8) (hn:([c] == new) = false):Lib.replaceAll l [c] new = l.flatMap (dbl c new):=by
 unfold Lib.replaceAll Lib.replace
 rw [hn,if_neg (by simp)]
 unfold Lib.replaceNum
 rw [if_pos (by left; omega)]
 exact replaceK_flat c new l
theorem dbl_len (c d:UInt8) (l:List UInt8):(l.flatMap (dbl c [d,c])).length ≤ 2 * l.length:=by
 induction l with
 | nil=>exact Nat.le_refl _
 | cons x l ih =>
  rw [List.flatMap_cons,List.length_append,List.length_cons]
  have:(dbl c [d,c] x).length ≤ 2:=by unfold dbl; split <;> simp
  omega
theorem esc_two (l:List UInt8):(l.flatMap (dbl 92 [92,92])).flatMap (dbl 34 [92,34]) = l.flatMap escC:=by
 rw [List.flatMap_assoc]
 congr 1
 funext c
 have key:∀ n:Fin 256,(dbl 92 [92,92] (UInt8.ofNat n.val)).flatMap (dbl 34 [92,34]) = escC (UInt8.ofNat n.val):=by decide +kernel
 have:=key ⟨c.toNat,c.toNat_lt⟩
 simpa using this
theorem replace_any (s:ByteArray) (c:UInt8) (d:UInt8) (w:World) (hs:s.size ≤ 1000000) (hm:Max w) (hcd:([c] == [d,c]) = false) :
  Calls Tryz.prog 141 #[.string s,.string ⟨#[c]⟩,.string ⟨#[d,c]⟩] w fun e w'=>∃ t,e = .returned (.string t)∧t.data.toList = s.data.toList.flatMap (dbl c [d,c])∧Below w.heap.size w w':=by
 obtain ⟨_,x,hx⟩:=hm
 have hc:=Lib.countB_le ⟨#[c]⟩ (by show 1 ≤ 1; omega) _ s (Nat.le_refl _)
 refine (Tryz.strings_ReplaceAll s ⟨#[c]⟩ ⟨#[d,c]⟩ x w (by omega) hx (by show 1 ≤ 1; omega) (by
  have:(⟨#[d,c]⟩:ByteArray).size = 2:=rfl
  rw [this]; omega)).mono ?_
 rintro e w' ⟨rfl,hb⟩
 refine ⟨_,rfl,?_,hb⟩
 exact replace_flat c [d,c] s.data.toList hcd
set_option maxHeartbeats 800000 in
set_option maxRecDepth 100000 in
theorem kwritten_any (s:ByteArray) (w:World) (hs:s.size ≤ 100000) (hm:Max w) :
  Calls Tryz.prog 94 #[.string s] w fun e w'=>∃ t,e = .returned (.string t)∧t.data.toList = valW s.data.toList∧t.size ≤ 4 * s.size+2∧Below w.heap.size w w':=by
 have HMx:=Box.mk hm
 have hw0:=hm.1
 clear hm
 go_enter Tryz.func94,Tryz.ntmps94
 go_wp2_with fail
 refine (kisToken_any s _).mono ?_
 rintro e w1 ⟨rfl,hb1⟩
 have hsz1:=hb1.size
 cases ht:tokS s.data.toList
 ·have HV:Box (valW s.data.toList = 34 :: (s.data.toList.flatMap escC++[34])):=⟨by unfold valW; rw [ht]; rfl⟩
  clear ht
  go_wp2_with fail
  refine (replace_any s 92 92 _ (by omega) (HMx.out.below hb1 hw0) (by decide)).mono ?_
  rintro e w2 ⟨t1,rfl,h1,hb2⟩
  have b2:=hb1.trans (hb2.mono hsz1)
  have l1:=dbl_len 92 92 s.data.toList
  rw [← h1,size_list,size_list] at l1
  go_wp2_with fail
  refine (replace_any t1 34 92 _ (by omega) (HMx.out.below b2 hw0) (by decide)).mono ?_
  rintro e w3 ⟨t2,rfl,h2,hb3⟩
  have b3:=b2.trans (hb3.mono b2.size)
  have l2:=dbl_len 34 92 t1.data.toList
  rw [← h2,size_list,size_list] at l2
  have HE:Box (((⟨#[34]⟩:ByteArray)++t2++⟨#[34]⟩).data.toList = valW s.data.toList):=⟨by
   rw [HV.out,← esc_two,← h1,← h2]; simp⟩
  have hz:((⟨#[34]⟩:ByteArray)++t2++⟨#[34]⟩).size ≤ 4 * s.size+2:=by
   rw [ByteArray.size_append,ByteArray.size_append]
   show 1+t2.size+1 ≤ _
   omega
  have HZ:=Box.mk hz
  clear hz h1 h2 HV
  go_wp2
  go_ret
  exact ⟨_,rfl,HE.out,HZ.out,b3⟩
 ·have HV:Box (s.data.toList = valW s.data.toList):=⟨by unfold valW; rw [ht]; rfl⟩
  clear ht
  go_wp2
  go_ret
  exact ⟨_,rfl,HV.out,by omega,hb1⟩
end Go.Proofs.YtknhacbfddggpaaGreatDoor
namespace Go.Proofs.YtknhacbfddggpaaGreatDoor
open Go.RowKit
def goodF (f:Fl):Bool:=goodP (pb2 f)
def firstQ (L:List Fl):Nat:=(L.takeWhile goodF).length
theorem firstQ_stop (L:List Fl) (k:Nat) (f:Fl) (hk:L[k]? = some f) (h:(L.take k).all goodF = true) (h':goodF f = false):firstQ L = k:=by
 induction L generalizing k with
 | nil=>exact absurd hk (by simp)
 | cons g L ih =>
  unfold firstQ
  cases k with
  | zero =>
   simp at hk
   subst hk
   rw [List.takeWhile_cons,h']; rfl
  | succ k =>
   simp only [List.take_succ_cons,List.all_cons,Bool.and_eq_true] at h
   rw [List.takeWhile_cons,h.1]
   have:=ih k (by simpa using hk) h.2
   unfold firstQ at this
   show (L.takeWhile goodF).length+1 = k+1
   rw [this]
theorem goodF_on (L:List Fl) (k:Nat) (f:Fl) (hk:L[k]? = some f) (h:(L.take k).all goodF = true) (h':goodF f = true):(L.take (k+1)).all goodF = true:=by
 rw [take_snocF L k f hk,List.all_append,h]; simp [h']
theorem goodF_no1 (n v:ByteArray) (h:tokS n.data.toList = false):goodF (n,v) = false:=by unfold goodF goodP pb2; simp only; rw [h]; rfl
theorem goodF_no2 (n v:ByteArray) (h:decide (smallS n.data.toList = n.data.toList) = false):goodF (n,v) = false:=by unfold goodF goodP pb2; simp only; rw [h]; simp
theorem goodF_no3 (n v:ByteArray) (h:v.data.toList.all inC = false):goodF (n,v) = false:=by unfold goodF goodP pb2; simp only; rw [h]; simp
theorem goodF_yes (n v:ByteArray) (h1:tokS n.data.toList = true) (h2:decide (smallS n.data.toList = n.data.toList) = true) (h3:v.data.toList.all inC = true):goodF (n,v) = true:=by unfold goodF goodP pb2; simp only; rw [h1,h2,h3]; rfl
theorem writeK_on (m:List UInt8) (L:List Fl) (k:Nat) (f:Fl) (hk:L[k]? = some f):writeK m ((L.take (k+1)).map pb2) = writeK m ((L.take k).map pb2)++paramW (pb2 f):=by
 unfold writeK
 rw [take_snocF L k f hk]; simp
theorem valW_len (v:List UInt8):(valW v).length ≤ 2 * v.length+2:=by
 unfold valW
 split
 ·omega
 ·have:(v.flatMap escC).length ≤ 2 * v.length:=by
   induction v with
   | nil=>exact Nat.le_refl _
   | cons c v ih =>
    rw [List.flatMap_cons,List.length_append,List.length_cons]
    have:(escC c).length ≤ 2:=by unfold escC; split <;> simp
    have h2:∀ v:List UInt8,(v.flatMap escC).length ≤ 2 * v.length:=by
     intro v
     induction v with
     | nil=>exact Nat.le_refl _
     | cons c v ih =>
      rw [List.flatMap_cons,List.length_append,List.length_cons]
      have:(escC c).length ≤ 2:=by unfold escC; split <;> simp
      omega
    have:=h2 v
    omega
  simp only [List.length_cons,List.length_append,List.length_nil]
  omega
theorem paramW_len (f:Fl) (h:f.1.size ≤ 24300∧f.2.size ≤ 24300):(paramW (pb2 f)).length ≤ 72905:=by
 have:=valW_len f.2.data.toList
 rw [size_list] at this
 unfold paramW pb2
 simp only [List.length_append,List.length_cons,List.length_nil,size_list]
 omega
theorem writeK_len (m:List UInt8) (L:List Fl) (h:∀ f ∈ L,f.1.size ≤ 24300∧f.2.size ≤ 24300):(writeK m (L.map pb2)).length ≤ m.length+L.length * 72905:=by
 unfold writeK
 rw [List.length_append]
 have:((L.map pb2).flatMap paramW).length ≤ L.length * 72905:=by
  induction L with
  | nil=>exact Nat.le_refl _
  | cons f L ih =>
   have h1:=paramW_len f (h f List.mem_cons_self)
   have h2:=ih fun g hg=>h g (List.mem_cons_of_mem _ hg)
   rw [List.map_cons,List.flatMap_cons,List.length_append,List.length_cons]
   omega
 omega
theorem written_calls (args:Array Value) (w:World):(callFunc 94 args).run Tryz.prog w = .ok (.enter 94 args) w:=by simp [go_sem]
theorem step_appG {ops:Array Oper} {o:Oper} {a:Act} {K:Act → World → Prop} {Q:Exit → Act → World → Prop} {E:Prop} (W w0:World) (hgd:o.guard = none) (s x:Operand) (ho:o.op = .call { callee:=.builtin .append,args:=#[s,x],argTypes:=#[147,9] })
  (B:Nat) (v:Value) (l:List UInt8) (hs:a.eval s = v) (hown:OwnG W B v l) (t:ByteArray) (hx:a.eval x = .string t) (hl:l.length+t.size ≤ 1000000000) (hB:B ≤ W.heap.size) (hb:Below B w0 W)
  (h:∀ v' w',OwnG w' B v' (l++t.data.toList) → Below B w0 w' → K (a.put o.dst v') w'):if Region.wanted o (yielded ops a.tmps) = true then Oper.wp Tryz.prog o a W K Q else E:=by
 have hw:Region.wanted o (yielded ops a.tmps) = true:=by simp [Region.wanted,hgd]
 rw [if_pos hw]
 obtain ⟨v',w',hr,h2,h3,h4⟩:=hown.app t o.type hl hB
 unfold Oper.wp execOp
 simp only [ho,resolve,invoke,builtin,Sem.run_bind,Sem.run_pure,Result.andThen_ok,List.map_toArray,List.map_cons,List.map_nil,hs,hx,hr]
 refine h v' w' h2 (hb.grown h3 hB ?_)
 obtain ⟨g,cap,cur,fz,rfl,hBg,_⟩:=hown
 intro k hk
 simp [Value.ownBlock] at hk
 omega
def KWPost (m:List UInt8) (L:List Fl) (e:Ending) (w':World):Prop:=
 (goodM m = false∧e = .returned (.tuple #[.string ⟨#[]⟩,.iface 30 (.int .i64 1)])) ∨
 (goodM m = true∧firstQ L < L.length∧∃ E,e = .returned (.tuple #[.string ⟨#[]⟩,E])∧ErrAt w' E 1 (firstQ L)) ∨
 (goodM m = true∧L.all goodF = true∧∃ t:ByteArray,e = .returned (.tuple #[.string t,.nilIface])∧t.data.toList = writeK m (L.map pb2))
set_option maxHeartbeats 4000000 in
set_option maxRecDepth 100000 in
theorem kwrite_any (m:ByteArray) (v:Value) (L:List Fl) (w:World) (hm:m.size ≤ 100000) (hM:Mid L) (hF:FL w v L) (hx:Max w) :
  Calls Tryz.prog 53 #[.string m,v] w fun e w'=>KWPost m.data.toList L e w'∧Below w.heap.size w w':=by
 obtain ⟨A,cap,rfl,hcap,hcells⟩:=hF
 have HC:=Box.mk hcells
 have hlen:=hM.1
 have HM:=Box.mk hM
 have HMx:=Box.mk hx
 have hw0:=hx.1
 have hcv:=run_bytes
 clear hcells hM hx
 go_enter Tryz.func53,Tryz.ntmps53
 go_wp2_with fail
 refine (kmain_any m _ hm HMx.out).mono ?_
 rintro e w1 ⟨rfl,hb1⟩
 cases him:isMainS m.data.toList
 ·have HG:Box (goodM m.data.toList = false):=⟨by unfold goodM; rw [him]; rfl⟩
  clear him
  go_wp2
  go_ret2
  exact ⟨.inl ⟨HG.out,rfl⟩,hb1⟩
 ·go_wp2_with fail
  refine (ksmall_any m _ (by omega)).mono ?_
  rintro e w2 ⟨rfl,hb2⟩
  have b2:=hb1.trans (hb2.mono hb1.size)
  have hsz2:=b2.size
  clear hb1 hb2
  cases hsm:decide (smallS m.data.toList = m.data.toList)
  ·have HG:Box (goodM m.data.toList = false):=⟨by unfold goodM; rw [hsm,Bool.and_false]⟩
   clear him hsm
   go_wp2
   go_ret2
   exact ⟨.inl ⟨HG.out,rfl⟩,b2⟩
  ·have HG:Box (goodM m.data.toList = true):=⟨by unfold goodM; rw [him,hsm]; rfl⟩
   clear him hsm
   go_wp2
   clear hcv
   have hB0:=OwnG.bytes w2 ((w2.alloc (.cells (bytesRow m (grownCap w2 m.size 0 5)) 5 ((bytesRow m (grownCap w2 m.size 0 5)).size,(bytesRow m (grownCap w2 m.size 0 5)).size+1))).drew) w.heap.size m hsz2 (by omega) rfl
   have hb0:Below w.heap.size w ((w2.alloc (.cells (bytesRow m (grownCap w2 m.size 0 5)) 5 ((bytesRow m (grownCap w2 m.size 0 5)).size,(bytesRow m (grownCap w2 m.size 0 5)).size+1))).drew):=(b2.alloc hsz2 _).drew
   go_loopw [6,22] (fun x i wr=>∃ (k:Nat) (o:List UInt8),k ≤ L.length∧i = .int .i64 k∧OwnG wr w.heap.size x o∧Below w.heap.size w wr∧Box (o = writeK m.data.toList ((L.take k).map pb2))∧Box ((L.take k).all goodF = true)) (fun _ i _=>L.length - (intOf i).toNat)
   case atStart=>exact ⟨0,m.data.toList,Nat.zero_le _,rfl,hB0,hb0,⟨by unfold writeK; simp⟩,⟨rfl⟩⟩
   case round =>
    obtain ⟨k,o,hk,rfl,hown,hb,HO,HA⟩:=hrel
    have hsz:=hb.size
    have hol:o.length ≤ 600000000:=by
     have:=writeK_len m.data.toList (L.take k) (fun f hf=>HM.out.2 f (List.mem_of_mem_take hf))
     rw [← HO.out,size_list,List.length_take] at this
     have h2:min k L.length ≤ 8000:=by omega
     have h3:min k L.length * 72905 ≤ 8000 * 72905:=Nat.mul_le_mul_right _ h2
     omega
    by_cases hlt:k < L.length
    ·obtain ⟨b,off,n,v,rfl,HN,_,_,hbl,d0,d1⟩:=HC.out.elem HM.out.tiny hb k hlt
     have hnv:=HM.out.2 (n,v) (List.mem_of_getElem? HN.out)
     obtain ⟨hn,hv⟩:=hnv
     simp only at hn hv
     have hb3:=hb.alloc hsz (.cells #[.string n,.string v] 103)
     have hsz3:w.heap.size ≤ (wr.alloc (.cells #[.string n,.string v] 103)).heap.size:=by simp; omega
     clear HC HM
     go_wp2_with fail
     refine (kisToken_any n _).mono ?_
     rintro e w3 ⟨rfl,hb4⟩
     have b4:=hb3.trans (hb4.mono hsz3)
     have p0:w3.cell? ⟨wr.heap.size,0,none⟩ = some (.string n):=(hb4.cell (p:=⟨wr.heap.size,0,none⟩) (by simp)).trans (by simp)
     have p1:w3.cell? ⟨wr.heap.size,1,none⟩ = some (.string v):=(hb4.cell (p:=⟨wr.heap.size,1,none⟩) (by simp)).trans (by simp)
     have hP3:wr.heap.size < w3.heap.size:=by have:=hb4.size; simp at this; omega
     cases ht1:tokS n.data.toList
     ·have HE:Box (firstQ L = k):=⟨firstQ_stop L k _ HN.out HA.out (goodF_no1 n v ht1)⟩
      clear ht1 HN HA HO
      go_wp2
      exact bodyPost_ret (v:=.tuple #[.string ⟨#[]⟩,.iface 148 (.pointer (some ⟨w3.heap.size,0,none⟩))]) (by simp [results,Tryz.results53,go_sem]) rfl ⟨.inr (.inl ⟨HG.out,by rw [HE.out]; exact hlt,_,rfl,⟨_,rfl,by simp,by rw [HE.out]; simp⟩⟩),b4.alloc b4.size _⟩
     ·go_wp2_with fail
      refine (ksmall_any n _ (by omega)).mono ?_
      rintro e w4 ⟨rfl,hb5⟩
      have b5:=b4.trans (hb5.mono b4.size)
      have q0:w4.cell? ⟨wr.heap.size,0,none⟩ = some (.string n):=(hb5.cell (p:=⟨wr.heap.size,0,none⟩) hP3).trans p0
      have q1:w4.cell? ⟨wr.heap.size,1,none⟩ = some (.string v):=(hb5.cell (p:=⟨wr.heap.size,1,none⟩) hP3).trans p1
      have hP4:wr.heap.size < w4.heap.size:=by have:=hb5.size; omega
      cases ht2:decide (smallS n.data.toList = n.data.toList)
      ·have HE:Box (firstQ L = k):=⟨firstQ_stop L k _ HN.out HA.out (goodF_no2 n v ht2)⟩
       clear ht1 ht2 HN HA HO
       go_wp2
       exact bodyPost_ret (v:=.tuple #[.string ⟨#[]⟩,.iface 148 (.pointer (some ⟨w4.heap.size,0,none⟩))]) (by simp [results,Tryz.results53,go_sem]) rfl ⟨.inr (.inl ⟨HG.out,by rw [HE.out]; exact hlt,_,rfl,⟨_,rfl,by simp,by rw [HE.out]; simp⟩⟩),b5.alloc b5.size _⟩
      ·go_wp2_with fail
       refine (ksay_any v _).mono ?_
       rintro e w5 ⟨rfl,hb6⟩
       have b6:=b5.trans (hb6.mono b5.size)
       have r0:w5.cell? ⟨wr.heap.size,0,none⟩ = some (.string n):=(hb6.cell (p:=⟨wr.heap.size,0,none⟩) hP4).trans q0
       have r1:w5.cell? ⟨wr.heap.size,1,none⟩ = some (.string v):=(hb6.cell (p:=⟨wr.heap.size,1,none⟩) hP4).trans q1
       have hP5:wr.heap.size < w5.heap.size:=by have:=hb6.size; omega
       cases ht3:v.data.toList.all inC
       ·have HE:Box (firstQ L = k):=⟨firstQ_stop L k _ HN.out HA.out (goodF_no3 n v ht3)⟩
        clear ht1 ht2 ht3 HN HA HO
        go_wp2
        exact bodyPost_ret (v:=.tuple #[.string ⟨#[]⟩,.iface 148 (.pointer (some ⟨w5.heap.size,0,none⟩))]) (by simp [results,Tryz.results53,go_sem]) rfl ⟨.inr (.inl ⟨HG.out,by rw [HE.out]; exact hlt,_,rfl,⟨_,rfl,by simp,by rw [HE.out]; simp⟩⟩),b6.alloc b6.size _⟩
       ·have HA2:Box ((L.take (k+1)).all goodF = true):=⟨goodF_on L k _ HN.out HA.out (goodF_yes n v ht1 ht2 ht3)⟩
        have HO2:Box (∀ t:ByteArray,t.data.toList = valW v.data.toList → o++(((⟨#[59,32]⟩:ByteArray)++n++⟨#[61]⟩)++t).data.toList = writeK m.data.toList ((L.take (k+1)).map pb2)):=⟨fun t ht=>by
         rw [writeK_on _ L k _ HN.out,← HO.out]
         unfold paramW pb2
         simp [ht]⟩
        have hown5:=((hown.below ((Below.refl _ _).alloc (Nat.le_refl _) _) (Nat.le_refl _)).below (hb4.trans ((hb5.mono hb4.size).trans (hb6.mono (by have:=hb4.size; have:=hb5.size; omega)))) (Nat.le_refl _):OwnG w5 w.heap.size u6 o)
        have hsz5:=b6.size
        clear ht1 ht2 ht3 HN HA HO hown hb3 hb4 hb5 hb6 p0 p1 q0 q1
        go_wp2
        have hownd:OwnG w5.drew w.heap.size u6 o:=hown5
        have hbd:=b6.drew
        have s0:w5.drew.cell? ⟨wr.heap.size,0,none⟩ = some (.string n):=r0
        have s1:w5.drew.cell? ⟨wr.heap.size,1,none⟩ = some (.string v):=r1
        have HMx5:=Box.mk (HMx.out.below hbd hw0)
        have z1:¬ 9223372036854775807 < 2+n.size:=by omega
        have z2:¬ 9223372036854775807 < 2+n.size+1:=by omega
        go_region_law (first | (refine step_appG _ w rfl (.tmp 47) (.tmp 55) rfl w.heap.size u6 o (by simp [Act.eval,Act.put]) (by exact hown7) (((⟨#[59,32]⟩:ByteArray)++n++⟨#[61]⟩)++t) (by simp [Act.eval,Act.put]) (by exact HL.out) (by exact hsz7) (by exact b7) ?_; intro v8 w8 hown8 hb8) | (refine step_call1 rfl 94 written_calls (.tmp 53) 9 rfl (.string v) (by simp [Act.eval,Act.put]) (fun r w'=>∃ t:ByteArray,r = .string t∧t.data.toList = valW v.data.toList∧t.size ≤ 4 * v.size+2∧Below w5.drew.heap.size w5.drew w') ((kwritten_any v _ (by omega) HMx5.out).mono (by rintro e w' ⟨t,rfl,h1,h2,h3⟩; exact ⟨_,rfl,t,rfl,h1,h2,h3⟩)) ?_; rintro r w7 ⟨t,rfl,ht,hts,hb7⟩; have b7:=hbd.trans (hb7.mono hsz5); have hsz7:=b7.size; have hown7:=hownd.below hb7 (Nat.le_refl _); have t0:w7.cell? ⟨wr.heap.size,0,none⟩ = some (.string n):=(hb7.cell (p:=⟨wr.heap.size,0,none⟩) hP5).trans s0; have t1:w7.cell? ⟨wr.heap.size,1,none⟩ = some (.string v):=(hb7.cell (p:=⟨wr.heap.size,1,none⟩) hP5).trans s1; have z3:¬ 9223372036854775807 < 2+n.size+1+t.size:=(by omega); have HTt:=Box.mk ht; have HL:Box (o.length+(((⟨#[59,32]⟩:ByteArray)++n++⟨#[61]⟩)++t).size ≤ 1000000000):=⟨by (rw [ByteArray.size_append,ByteArray.size_append,ByteArray.size_append]; show o.length+(2+n.size+1+t.size) ≤ _; omega)⟩; clear ht))
        all_goals
         have HO3:=Box.mk (HO2.out t HTt.out)
         clear HO2 HTt
         go_wp2
         go_roundw
         case rel=>exact ⟨k+1,_,by omega,by go_num,hown8,hb8,HO3,HA2⟩
         case measure=>simp [intOf]; omega
    ·have HE:Box (L.all goodF = true):=⟨by rw [← HA.out,List.take_of_length_le (by omega)]⟩
     have HO':Box (o = writeK m.data.toList (L.map pb2)):=⟨by rw [HO.out,List.take_of_length_le (by omega)]⟩
     have hcs:=hown.string
     clear HA HO HC HM
     go_wp2
     go_ret2
     exact ⟨.inr (.inr ⟨HG.out,HE.out,_,rfl,HO'.out⟩),hb⟩
end Go.Proofs.YtknhacbfddggpaaGreatDoor
