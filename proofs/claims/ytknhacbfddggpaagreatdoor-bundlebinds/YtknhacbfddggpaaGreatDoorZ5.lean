import Derived.Test.YtknhacbfddggpaaGreatDoorZ4
import Derived.Deep.RegionWith
namespace Go.Proofs.YtknhacbfddggpaaGreatDoor
open Go.RowKit
def rightF (f:Fl):Bool:=nameS f.1.data.toList && saysS f.2.data.toList
def firstW (L:List Fl):Nat:=(L.takeWhile rightF).length
theorem firstW_stop (L:List Fl) (k:Nat) (f:Fl) (hk:L[k]? = some f) (h:(L.take k).all rightF = true) (h':rightF f = false):firstW L = k:=by
 induction L generalizing k with
 | nil=>exact absurd hk (by simp)
 | cons g L ih =>
  unfold firstW
  cases k with
  | zero =>
   simp at hk
   subst hk
   rw [List.takeWhile_cons,h']; rfl
  | succ k =>
   simp only [List.take_succ_cons,List.all_cons,Bool.and_eq_true] at h
   rw [List.takeWhile_cons,h.1]
   have:=ih k (by simpa using hk) h.2
   unfold firstW at this
   show (L.takeWhile rightF).length+1 = k+1
   rw [this]
theorem firstW_all (L:List Fl) (h:L.all rightF = true):firstW L = L.length:=by
 induction L with
 | nil=>rfl
 | cons g L ih =>
  simp only [List.all_cons,Bool.and_eq_true] at h
  have:=ih h.2
  unfold firstW at this ⊢
  rw [List.takeWhile_cons,h.1]
  show (L.takeWhile rightF).length+1 = L.length+1
  rw [this]
theorem all_onF (L:List Fl) (k:Nat) (f:Fl) (hk:L[k]? = some f) (h:(L.take k).all rightF = true) (h':rightF f = true):(L.take (k+1)).all rightF = true:=by
 rw [take_snocF L k f hk,List.all_append,h]; simp [h']
set_option maxHeartbeats 1600000 in
set_option maxRecDepth 100000 in
theorem firstWrong_any (v:Value) (L:List Fl) (w:World) (hT:Tiny L) (hF:FL w v L) :
  Calls Tryz.prog 186 #[v] w fun e w'=>e = .returned (.int .i64 (firstW L))∧Below w.heap.size w w':=by
 obtain ⟨A,cap,rfl,hcap,hcells⟩:=hF
 have HC:=Box.mk hcells
 have hlen:=hT.1
 have HT:=Box.mk hT
 clear hcells hT
 go_enter Tryz.func186,Tryz.ntmps186
 go_wp2
 go_loopw [7] (fun i wr=>∃ k:Nat,k ≤ L.length∧i = .int .i64 k∧Below w.heap.size w wr∧Box ((L.take k).all rightF = true)) (fun i _=>L.length - (intOf i).toNat)
 case atStart=>exact ⟨0,Nat.zero_le _,rfl,Below.refl _ _,⟨rfl⟩⟩
 case round =>
  obtain ⟨k,hk,rfl,hb,HA⟩:=hrel
  have hsz:=hb.size
  by_cases hlt:k < L.length
  ·obtain ⟨b,off,n,v,rfl,HN,hn,hv,hbl,d0,d1⟩:=HC.out.elem HT.out hb k hlt
   have hb2:=hb.alloc hsz (.cells #[.string n,.string v] 75)
   clear HC HT
   cases h1:nameS n.data.toList
   ·have HF:Box (firstW L = k):=⟨firstW_stop L k _ HN.out HA.out (by unfold rightF; rw [h1]; rfl)⟩
    clear HN HA
    go_wp2_with (go_at_call 160; refine (isName_any _ _ hn).mono ?_; rintro e w' ⟨rfl,rfl⟩)
    go_ret
    exact ⟨ret_int (by rw [HF.out]),hb2⟩
   ·cases h2:saysS v.data.toList
    ·have HF:Box (firstW L = k):=⟨firstW_stop L k _ HN.out HA.out (by unfold rightF; rw [h2,Bool.and_false])⟩
     clear HN HA
     go_wp2_with (first | (go_at_call 160; refine (isName_any _ _ hn).mono ?_; rintro e w' ⟨rfl,rfl⟩) | (go_at_call 162; refine (maySay_any _ _ hv).mono ?_; rintro e w' ⟨rfl,rfl⟩))
     go_ret
     exact ⟨ret_int (by rw [HF.out]),hb2⟩
    ·have HA':Box ((L.take (k+1)).all rightF = true):=⟨all_onF L k _ HN.out HA.out (by unfold rightF; rw [h1,h2]; rfl)⟩
     clear HN HA
     go_wp2_with (first | (go_at_call 160; refine (isName_any _ _ hn).mono ?_; rintro e w' ⟨rfl,rfl⟩) | (go_at_call 162; refine (maySay_any _ _ hv).mono ?_; rintro e w' ⟨rfl,rfl⟩))
     go_roundw
     case rel=>exact ⟨k+1,by omega,by go_num,hb2,HA'⟩
     case measure=>simp [intOf]; omega
  ·have HF:Box (firstW L = L.length):=⟨firstW_all L (by rw [← HA.out,List.take_of_length_le (by omega)])⟩
   clear HA HC HT
   go_wp2
   go_ret
   exact ⟨ret_int (by rw [HF.out]),hb⟩
set_option maxHeartbeats 400000 in
theorem right_any (v:Value) (L:List Fl) (w:World) (hT:Tiny L) (hF:FL w v L) :
  Calls Tryz.prog 144 #[v] w fun e w'=>e = .returned (.bool (decide (firstW L = L.length)))∧Below w.heap.size w w':=by
 have HF:=Box.mk hF
 have hlen:=hT.1
 obtain ⟨A,cap,rfl,hcap,_⟩:=hF
 go_enter Tryz.func144,Tryz.ntmps144
 go_wp2_with fail
 refine (firstWrong_any _ L _ hT HF.out).mono ?_
 rintro e w1 ⟨rfl,hb⟩
 go_wp2
 go_ret
 refine ⟨ret_bool ?_,hb⟩
 rw [Bool.eq_iff_iff,decide_eq_true_iff,beq_iff_eq]
 omega
def getS (L:List Fl) (s:List UInt8):Option Fl:=L.find? fun f=>decide (smallS f.1.data.toList = smallS s)
def getV:Option Fl → Value
 | some f=>.tuple #[.string f.2,.bool true]
 | none=>.tuple #[.string ⟨#[]⟩,.bool false]
theorem getS_hit (L:List Fl) (s:List UInt8) (k:Nat) (f:Fl) (hk:L[k]? = some f) (h:∀ g ∈ L.take k,smallS g.1.data.toList ≠ smallS s) (h':smallS f.1.data.toList = smallS s):getS L s = some f:=by
 unfold getS
 rw [← List.take_append_drop k L,List.find?_append,List.find?_eq_none.2 (fun g hg=>by simpa using h g hg)]
 have hl:=(List.getElem?_eq_some_iff.1 hk).1
 rw [List.drop_eq_getElem_cons hl,(List.getElem?_eq_some_iff.1 hk).2]
 simp [h']
theorem getS_none (L:List Fl) (s:List UInt8) (h:∀ g ∈ L,smallS g.1.data.toList ≠ smallS s):getS L s = none:=by
 unfold getS
 rw [List.find?_eq_none]
 exact fun g hg=>by simpa using h g hg
theorem str_eq {a b:ByteArray} (h:a.data.toList = b.data.toList):(a.toList == b.toList) = true:=by rw [ByteArray.toList_eq,ByteArray.toList_eq,h]; simp
theorem str_ne {a b:ByteArray} (h:a.data.toList ≠ b.data.toList):(a.toList == b.toList) = false:=by rw [ByteArray.toList_eq,ByteArray.toList_eq]; simpa using h
set_option maxHeartbeats 1600000 in
set_option maxRecDepth 100000 in
theorem get_any (v:Value) (L:List Fl) (s:ByteArray) (w:World) (hs:s.size ≤ 1000000) (hT:Tiny L) (hF:FL w v L) :
  Calls Tryz.prog 35 #[v,.string s] w fun e w'=>e = .returned (getV (getS L s.data.toList))∧Below w.heap.size w w':=by
 obtain ⟨G,HG⟩:∃ G,Box (G = getS L s.data.toList):=⟨_,⟨rfl⟩⟩
 rw [← HG.out]
 obtain ⟨A,cap,rfl,hcap,hcells⟩:=hF
 have HC:=Box.mk hcells
 have hlen:=hT.1
 have HT:=Box.mk hT
 clear hcells hT
 go_enter Tryz.func35,Tryz.ntmps35
 go_wp2_with fail
 refine (small_str s _ (by omega)).mono ?_
 rintro e w1 ⟨t1,rfl,ht1,hb1⟩
 have H1:=Box.mk ht1
 clear ht1
 go_wp2
 go_loopw [13] (fun i wr=>∃ k:Nat,k ≤ L.length∧i = .int .i64 k∧Below w.heap.size w wr∧Box (∀ g ∈ L.take k,smallS g.1.data.toList ≠ smallS s.data.toList)) (fun i _=>L.length - (intOf i).toNat)
 case atStart=>exact ⟨0,Nat.zero_le _,rfl,hb1,⟨fun g hg=>absurd hg (by simp)⟩⟩
 case round =>
  obtain ⟨k,hk,rfl,hb,HA⟩:=hrel
  have hsz:=hb.size
  by_cases hlt:k < L.length
  ·obtain ⟨b,off,n,v,rfl,HN,hn,hv,hbl,d0,d1⟩:=HC.out.elem HT.out hb k hlt
   have hb2:=hb.alloc hsz (.cells #[.string n,.string v] 75)
   clear HC HT
   go_wp2_with fail
   refine (small_str n _ (by omega)).mono ?_
   rintro e w2 ⟨t2,rfl,ht2,hb3⟩
   have hb4:=hb2.trans (hb3.mono hb2.size)
   have e1:w2.cell? ⟨wr.heap.size,1,none⟩ = some (.string v):=(hb3.cell (p:=⟨wr.heap.size,1,none⟩) (by simp)).trans (by simp)
   by_cases hm:smallS n.data.toList = smallS s.data.toList
   ·have hq:(t2.toList == t1.toList) = true:=str_eq (by rw [ht2,H1.out,hm])
    have HF:Box (G = some (n,v)):=⟨by rw [HG.out]; exact getS_hit L _ k _ HN.out HA.out hm⟩
    clear HN HA HG H1 ht2 hm
    go_wp2
    go_ret2
    exact ⟨by rw [HF.out]; rfl,hb4⟩
   ·have hq:(t2.toList == t1.toList) = false:=str_ne (by rw [ht2,H1.out]; exact hm)
    have HA':Box (∀ g ∈ L.take (k+1),smallS g.1.data.toList ≠ smallS s.data.toList):=⟨fun g hg=>by
     rw [take_snocF L k _ HN.out] at hg
     rcases List.mem_append.1 hg with h | h
     ·exact HA.out g h
     ·obtain rfl:=List.mem_singleton.1 h
      exact hm⟩
    clear HN HA HG H1 ht2 hm
    go_wp2
    go_roundw
    case rel=>exact ⟨k+1,by omega,by go_num,hb4,HA'⟩
    case measure=>simp [intOf]; omega
  ·have HF:Box (G = none):=⟨by rw [HG.out]; exact getS_none L _ (by have:=HA.out; rw [List.take_of_length_le (by omega)] at this; exact this)⟩
   clear HA HC HT HG
   go_wp2
   go_ret2
   exact ⟨by rw [HF.out]; rfl,hb⟩
end Go.Proofs.YtknhacbfddggpaaGreatDoor
namespace Go.Proofs.YtknhacbfddggpaaGreatDoor
open Go.RowKit
def OwnS (w:World) (B:Nat) (v:Value) (ss:List ByteArray):Prop:=w.ownsRow B 9 1 v ss.length (ss.map Value.string)
theorem Tryz.infoStr:(Tryz.prog.info? 9).map (fun i=>(i.zero,i.size,i.bytes)) = some (some (.string ⟨#[]⟩),1,16):=by kernel_rfl
theorem OwnS.nil (w:World) (B:Nat):OwnS w B (.slice none 0 0) []:=World.ownsRow_nil _ _ _ _
theorem OwnS.below {w w':World} {B C:Nat} {v:Value} {l:List ByteArray} (h:OwnS w B v l) (hb:Below C w w') (hC:w.heap.size ≤ C):OwnS w' B v l:=by
 obtain ⟨h1,h2⟩:=h
 refine ⟨h1,?_⟩
 rcases h2 with h2 | ⟨g,cap,cur,a,b,c,d⟩
 ·exact .inl h2
 ·refine .inr ⟨g,cap,cur,a,b,?_,d⟩
  rw [hb.block g ?_]
  ·exact c
  ·have:=(Array.getElem?_eq_some_iff.1 c).1
   omega
theorem OwnS.shape {w:World} {B:Nat} {v:Value} {l:List ByteArray} (h:OwnS w B v l) :
  (v = .slice none 0 0∧l = []) ∨ ∃ g cap,v = .slice (some ⟨g,0,none⟩) l.length cap∧B ≤ g∧g < w.heap.size∧l.length ≤ cap∧cap ≤ maxLen∧∀ k (hk:k < l.length),w.cell? ⟨g,k,none⟩ = some (.string l[k]):=by
 rcases h.2 with ⟨a,b⟩ | ⟨g,cap,cur,a,b,c,d,e,_⟩
 ·exact .inl ⟨a,List.eq_nil_of_length_eq_zero b⟩
 ·refine .inr ⟨g,cap,a,b,(Array.getElem?_eq_some_iff.1 c).1,d,e,fun k hk=>?_⟩
  have h':=h
  rw [a] at h'
  have hc:=World.ownsRow.cellAt h' k (by omega)
  rw [hc]
  simp [List.getElem?_eq_getElem hk]
theorem wp_appT {ops:Array Oper} {rest:List Oper} {o:Oper} {a:Act} {Q:Exit → Act → World → Prop} (wr w0:World) (hgd:o.guard = none) (s x:Operand) (ho:o.op = .call { callee:=.builtin .append,args:=#[s,x],argTypes:=#[98,98] })
  (B:Nat) (v:Value) (l:List ByteArray) (hs:a.eval s = v) (hown:OwnS wr B v l) (t:ByteArray) (hx:a.eval x = .slice (some ⟨wr.heap.size,0,none⟩) 1 1) (hl:l.length+1 ≤ 10000000) (hB:B ≤ wr.heap.size) (hb:Below B w0 wr)
  (h:∀ v' w',OwnS w' B v' (l++[t]) → Below B w0 w' → wpList Tryz.prog ops Q rest (a.put o.dst v') w'):wpList Tryz.prog ops Q (o :: rest) a (wr.alloc (.cells #[.string t] 9)):=by
 obtain ⟨i0,hi,hz0,hz1,hz2⟩:=info_parts Tryz.infoStr
 refine wpList_append_own (wr.alloc (.cells #[.string t] 9)) hgd s x 98 ho B 9 i0 (.string ⟨#[]⟩) 1 16 Tryz.underlying98 hi hz0 hz1 hz2 rfl (by decide) v l.length (l.map Value.string) hs (World.ownsRow.alloc hown _) ⟨wr.heap.size,0,none⟩ 1 1 [.string t] hx rfl ?_ (by intro u hu; rw [List.mem_singleton.1 hu]; rfl) (by unfold maxLen; omega) (by omega) (by simp; omega) ?_
 ·intro j u hj
  have hj0:j = 0:=by
   have:=(List.getElem?_eq_some_iff.1 hj).1
   simp at this; exact this
  subst hj0
  simp at hj
  subst hj
  simp [Addr.add]
 ·intro v' w' h1 h2 _
  refine h v' w' ?_ ((hb.alloc hB _).grown h2 (by simp; omega) (fun k hk=>(hown.lt k hk).1))
  unfold OwnS
  rw [List.length_append,List.map_append]
  exact h1
def cutP (v:List UInt8) (i:Nat):Bool:=decide (0 < i) && (v.getD i 0 == 32) && (v.getD (i - 1) 0 != 32)
def wordsTo (v:List UInt8):Nat → List (List UInt8) × Nat
 | 0=>([],0)
 | i+1=>if cutP v i then ((wordsTo v i).1++[(v.drop (wordsTo v i).2).take (i - (wordsTo v i).2)],i) else wordsTo v i
def wordsS (v:List UInt8):List (List UInt8):=(wordsTo v v.length).1++[v.drop (wordsTo v v.length).2]
theorem wordsTo_le (v:List UInt8) (i:Nat):(wordsTo v i).2 ≤ i:=by
 induction i with
 | zero=>exact Nat.le_refl _
 | succ i ih =>
  unfold wordsTo
  split
  ·exact Nat.le_succ _
  ·omega
theorem wordsTo_count (v:List UInt8) (i:Nat):(wordsTo v i).1.length ≤ i:=by
 induction i with
 | zero=>exact Nat.le_refl _
 | succ i ih =>
  unfold wordsTo
  split
  ·simp; omega
  ·omega
theorem wordsTo_flat (v:List UInt8) (i:Nat):(wordsTo v i).1.flatten = v.take (wordsTo v i).2:=by
 induction i with
 | zero=>rfl
 | succ i ih =>
  have hle:=wordsTo_le v i
  unfold wordsTo
  split
  ·simp only [List.flatten_append,ih,List.flatten_cons,List.flatten_nil,List.append_nil]
   have:i = (wordsTo v i).2+(i - (wordsTo v i).2):=by omega
   conv=>rhs; rw [this,List.take_add]
  ·exact ih
theorem wordsS_flat (v:List UInt8):(wordsS v).flatten = v:=by
 unfold wordsS
 rw [List.flatten_append,wordsTo_flat]
 simp
theorem wordsS_count (v:List UInt8):(wordsS v).length ≤ v.length+1:=by
 unfold wordsS
 rw [List.length_append]
 have:=wordsTo_count v v.length
 simp; omega
theorem wordsTo_succ (v:List UInt8) (i:Nat) {ws:List (List UInt8)} {f:Nat} (h:wordsTo v i = (ws,f)):wordsTo v (i+1) = if cutP v i then (ws++[(v.drop f).take (i - f)],i) else (ws,f):=by
 rw [wordsTo,h]
theorem cutP_at (s:ByteArray) (k:Nat) (h0:0 < k) (h:k < s.size):cutP s.data.toList k = (((s[k].toNat:Int) == 32) && ((s[k - 1].toNat:Int) != 32)):=by
 have e1:s.data.toList.getD k 0 = s[k]:=by rw [List.getD_eq_getElem?_getD,getL s k h]; rfl
 have e2:s.data.toList.getD (k - 1) 0 = s[k - 1]:=by rw [List.getD_eq_getElem?_getD,getL s (k - 1) (by omega)]; rfl
 unfold cutP
 rw [e1,e2,decide_eq_true h0,Bool.true_and]
 have a:=u8eq s[k] 32
 have b:=u8bne s[k - 1] 32
 rw [← a,← b]; rfl
def lst (b:ByteArray):List UInt8:=b.data.toList
set_option maxHeartbeats 1600000 in
set_option maxRecDepth 100000 in
theorem words_any (s:ByteArray) (w:World) (hl:s.size ≤ 1000000) :
  Calls Tryz.prog 219 #[.string s] w fun e w'=>∃ v ss,e = .returned v∧OwnS w' w.heap.size v ss∧ss.map lst = wordsS s.data.toList∧Below w.heap.size w w':=by
 go_enter Tryz.func219,Tryz.ntmps219
 go_wp2
 go_loopw [3,4,8] (fun v p i wr=>∃ (k f:Nat) (ss:List ByteArray),k ≤ s.size∧i = .int .i64 k∧p = .int .i64 f∧f ≤ k∧ss.length ≤ k∧OwnS wr w.heap.size v ss∧Below w.heap.size w wr∧Box (wordsTo s.data.toList k = (ss.map lst,f))) (fun _ _ i _=>s.size - (intOf i).toNat)
 case atStart=>exact ⟨0,0,[],Nat.zero_le _,rfl,rfl,Nat.le_refl _,Nat.le_refl _,OwnS.nil _ _,Below.refl _ _,⟨rfl⟩⟩
 case round =>
  obtain ⟨k,f,ss,hk,rfl,rfl,hf,hss,hown,hb,HW⟩:=hrel
  have hsz:=hb.size
  by_cases hlt:k < s.size
  ·by_cases h0:k = 0
   ·subst h0
    have HW':Box (wordsTo s.data.toList (0+1) = (ss.map lst,f)):=⟨by rw [wordsTo_succ _ _ HW.out]; rfl⟩
    have hz:¬ (0:Int) < ((0:Nat):Int):=by omega
    clear HW
    go_wp2
    go_roundw
    case rel=>exact ⟨0+1,f,ss,by omega,by go_num,rfl,by omega,by omega,hown,hb,HW'⟩
    case measure=>simp [intOf]; omega
   ·have hz:(0:Int) < (k:Int):=by omega
    have HCt:=Box.mk (cutP_at s k (by omega) hlt)
    have hbyte:(s[k].toNat:Int) < 256:=by have:=s[k].toNat_lt; omega
    have hkm:((k:Int) - 1).toNat = k - 1:=by omega
    cases h1:((s[k].toNat:Int) == 32)
    ·have HW':Box (wordsTo s.data.toList (k+1) = (ss.map lst,f)):=⟨by rw [wordsTo_succ _ _ HW.out,HCt.out,h1]; rfl⟩
     clear HW HCt
     go_wp2
     go_roundw
     case rel=>exact ⟨k+1,f,ss,by omega,by go_num,rfl,by omega,by omega,hown,hb,HW'⟩
     case measure=>simp [intOf]; omega
    ·cases h2:((s[k - 1].toNat:Int) != 32)
     ·have HW':Box (wordsTo s.data.toList (k+1) = (ss.map lst,f)):=⟨by rw [wordsTo_succ _ _ HW.out,HCt.out,h1,h2]; rfl⟩
      clear HW HCt
      go_wp2
      go_roundw
      case rel=>exact ⟨k+1,f,ss,by omega,by go_num,rfl,by omega,by omega,hown,hb,HW'⟩
      case measure=>simp [intOf]; omega
     ·have HW':Box (wordsTo s.data.toList (k+1) = ((ss++[s.extract f k]).map lst,k)):=⟨by
       rw [wordsTo_succ _ _ HW.out,HCt.out,h1,h2,List.map_append]
       show _ = (_++[lst (s.extract f k)],k)
       rw [lst,extract_list]; rfl⟩
      clear HW HCt
      go_wp2_with (at_builtin; refine wp_appT _ w rfl (.tmp 26) (.tmp 31) rfl w.heap.size _ _ rfl hown _ rfl (by omega) hsz hb ?_; intro v' w1 hown1 hb1)
      go_roundw
      case rel=>exact ⟨k+1,k,ss++[s.extract f k],by omega,by go_num,rfl,by omega,by simp; omega,hown1,hb1,HW'⟩
      case measure=>simp [intOf]; omega
  ·have hke:k = s.size:=by omega
   have HE:Box ((ss++[s.extract f s.size]).map lst = wordsS s.data.toList):=⟨by
    have:=HW.out
    rw [hke,← size_list] at this
    rw [wordsS,this,List.map_append]
    show _++[lst (s.extract f s.size)] = _
    rw [lst,extract_list,List.take_of_length_le (by rw [List.length_drop,size_list]; exact Nat.le_refl _)]⟩
   clear HW
   go_wp2_with (at_builtin; refine wp_appT _ w rfl (.tmp 35) (.tmp 39) rfl w.heap.size _ _ rfl hown _ rfl (by omega) hsz hb ?_; intro v' w1 hown1 hb1)
   go_ret
   exact ⟨_,_,rfl,hown1,HE.out,hb1⟩
end Go.Proofs.YtknhacbfddggpaaGreatDoor
namespace Go.Proofs.YtknhacbfddggpaaGreatDoor
open Go.RowKit
def stepW (q:List UInt8 × Nat × Bool) (w:List UInt8):List UInt8 × Nat × Bool:=
 if q.2.2 && decide (76 < q.2.1+w.length) then (q.1++[13,10]++w,w.length,true) else (q.1++w,q.2.1+w.length,true)
def begin (n:List UInt8):List UInt8 × Nat × Bool:=(n++[58,32],n.length+2,false)
def linesW (n:List UInt8) (ws:List (List UInt8)):List UInt8 × Nat × Bool:=ws.foldl stepW (begin n)
def fieldS (n v:List UInt8):List UInt8:=(linesW n (wordsS v)).1++[13,10]
theorem snoc_ind {α:Type} {P:List α → Prop} (h0:P []) (h1:∀ l x,P l → P (l++[x])) (l:List α):P l:=by
 have key:∀ l:List α,P l.reverse:=fun l=>by
  induction l with
  | nil=>exact h0
  | cons x l ih=>rw [List.reverse_cons]; exact h1 _ _ ih
 have:=key l.reverse
 rwa [List.reverse_reverse] at this
theorem linesW_snoc (n:List UInt8) (ws:List (List UInt8)) (x:List UInt8):linesW n (ws++[x]) = stepW (linesW n ws) x:=by unfold linesW; rw [List.foldl_append]; rfl
theorem linesW_len (n:List UInt8) (ws:List (List UInt8)):(linesW n ws).1.length ≤ n.length+2+ws.flatten.length+2 * ws.length∧(linesW n ws).2.1 ≤ n.length+2+ws.flatten.length:=by
 induction ws using snoc_ind with
 | h0=>simp [linesW,begin]
 | h1 ws x ih =>
  rw [linesW_snoc]
  unfold stepW
  simp only [List.flatten_append,List.length_append,List.flatten_cons,List.flatten_nil,List.length_cons,List.length_nil,List.append_nil]
  split
  ·simp only [List.length_append,List.length_cons,List.length_nil]; omega
  ·simp only [List.length_append]; omega
theorem flat_take (ws:List (List UInt8)) (k:Nat):(ws.take k).flatten.length ≤ ws.flatten.length:=by
 conv=>rhs; rw [← List.take_append_drop k ws,List.flatten_append,List.length_append]
 omega
theorem fieldS_len (n v:List UInt8):(fieldS n v).length ≤ n.length+3 * v.length+6:=by
 unfold fieldS
 have h1:=(linesW_len n (wordsS v)).1
 have h2:=wordsS_count v
 rw [wordsS_flat] at h1
 rw [List.length_append]
 simp only [List.length_cons,List.length_nil]
 omega
theorem bytes_at (W w':World) (B b:Nat) (s:ByteArray) (l:List UInt8) (n cap:Nat) (hbk:b = W.heap.size) (hcap:cap = grownCap W s.size 0 5) (hn:n = s.size) (hs:s.data.toList = l) (hB:B ≤ W.heap.size) (hl:s.size ≤ 1000000000) (e:w'.heap = W.heap.push (.cells (bytesRow s cap) 5 ((bytesRow s cap).size,(bytesRow s cap).size+1))) :
  OwnG w' B (.slice (some ⟨b,0,none⟩) n cap) l:=by
 subst hbk
 subst hcap
 subst hs
 subst hn
 exact OwnG.bytes W w' B s hB hl e
theorem word_len (ws:List (List UInt8)) (x:List UInt8) (h:x ∈ ws):x.length ≤ ws.flatten.length:=by
 induction ws with
 | nil=>exact absurd h (by simp)
 | cons y ws ih =>
  rw [List.flatten_cons,List.length_append]
  rcases List.mem_cons.1 h with rfl | h
  ·omega
  ·have:=ih h; omega
theorem linesW_on (n:List UInt8) (ws:List (List UInt8)) (j:Nat) (x:List UInt8) (hx:ws[j]? = some x) {o:List UInt8} {g:Nat} {q:Bool} (h:linesW n (ws.take j) = (o,g,q)):linesW n (ws.take (j+1)) = if q && decide (76 < g+x.length) then (o++[13,10]++x,x.length,true) else (o++x,g+x.length,true):=by
 rw [take_snocF ws j x hx,linesW_snoc,h]; rfl
set_option maxHeartbeats 3200000 in
set_option maxRecDepth 100000 in
theorem written_any (n v:ByteArray) (w:World) (hn:n.size ≤ 100000) (hv:v.size ≤ 100000) :
  Calls Tryz.prog 195 #[.agg #[.string n,.string v]] w fun e w'=>∃ x,e = .returned x∧OwnG w' w.heap.size x (fieldS n.data.toList v.data.toList)∧Below w.heap.size w w':=by
 obtain ⟨R,HR⟩:∃ R,Box (R = fieldS n.data.toList v.data.toList):=⟨_,⟨rfl⟩⟩
 rw [← HR.out]
 have hcv:=run_bytes
 go_enter Tryz.func195,Tryz.ntmps195
 go_wp2_with fail
 have hB0:=bytes_at (w.alloc (.cells #[.string n,.string v] 75)) (((w.alloc (.cells #[.string n,.string v] 75)).alloc (.cells (bytesRow (n++⟨#[58,32]⟩) (grownCap (w.alloc (.cells #[.string n,.string v] 75)) (n.size+2) 0 5)) 5 ((bytesRow (n++⟨#[58,32]⟩) (grownCap (w.alloc (.cells #[.string n,.string v] 75)) (n.size+2) 0 5)).size,(bytesRow (n++⟨#[58,32]⟩) (grownCap (w.alloc (.cells #[.string n,.string v] 75)) (n.size+2) 0 5)).size+1))).drew) w.heap.size (w.heap.size+1) (n++⟨#[58,32]⟩) (n.data.toList++[58,32]) (n.size+2) _ (by simp) (by simp [ByteArray.size_append,ByteArray.size_mk']) (by simp [ByteArray.size_append,ByteArray.size_mk']) (by simp) (by simp) (by simp [ByteArray.size_append,ByteArray.size_mk']; omega) rfl
 have hb0:Below w.heap.size w (((w.alloc (.cells #[.string n,.string v] 75)).alloc (.cells (bytesRow (n++⟨#[58,32]⟩) (grownCap (w.alloc (.cells #[.string n,.string v] 75)) (n.size+2) 0 5)) 5 ((bytesRow (n++⟨#[58,32]⟩) (grownCap (w.alloc (.cells #[.string n,.string v] 75)) (n.size+2) 0 5)).size,(bytesRow (n++⟨#[58,32]⟩) (grownCap (w.alloc (.cells #[.string n,.string v] 75)) (n.size+2) 0 5)).size+1))).drew):=(((Below.refl _ _).alloc (Nat.le_refl _) _).alloc (by simp) _).drew
 clear hcv
 refine (words_any v _ (by omega)).mono ?_
 rintro e w1 ⟨x,ss,rfl,hownS,hss,hb1⟩
 have hB1:=hB0.below hb1 (Nat.le_refl _)
 have g1:Below w.heap.size w w1:=hb0.trans (hb1.mono hb0.size)
 clear hB0 hb0 hb1
 have HSS:=Box.mk hss
 have hne:ss ≠ []:=by
  intro h
  have:=hss
  rw [h] at this
  unfold wordsS at this
  simp at this
 clear hss
 rcases hownS.shape with ⟨_,h⟩ | ⟨g,cap,rfl,hgB,hgs,hcap,hmax,hc⟩
 ·exact absurd h hne
 have HC:=Box.mk hc
 have hgB':w.heap.size+1 < g:=by have:=hgB; simp at this; omega
 have hcnt:ss.length ≤ v.size+1:=by
  have:=wordsS_count v.data.toList
  rw [← HSS.out,List.length_map,size_list] at this
  exact this
 have HL:Box (∀ j,((ss.map lst).take j).flatten.length ≤ v.size):=⟨fun j=>by
  have:=flat_take (ss.map lst) j
  rw [HSS.out,wordsS_flat,size_list,← HSS.out] at this
  exact this⟩
 have HM:Box (∀ a ∈ ss,a.size ≤ v.size):=⟨fun a ha=>by
  have:=word_len (ss.map lst) (lst a) (List.mem_map.2 ⟨a,ha,rfl⟩)
  rw [HSS.out,wordsS_flat,size_list] at this
  rw [lst,size_list] at this
  exact this⟩
 have HR':Box (R = (linesW n.data.toList (ss.map lst)).1++[13,10]):=⟨by rw [HR.out,HSS.out]; rfl⟩
 clear hc hne hownS hgB HSS HR
 go_wp2_with fail
 go_loopw [3,4,17] (fun x p i wr=>∃ (j gl:Nat) (o:List UInt8) (h:Nat),j ≤ ss.length∧i = .int .i64 j∧p = .int .i64 gl∧x.ownBlock = some h∧h ≠ g∧OwnG wr w.heap.size x o∧Below w.heap.size w wr∧g < wr.heap.size∧Box (∀ k (hk:k < ss.length),wr.cell? ⟨g,k,none⟩ = some (.string ss[k]))∧Box (linesW n.data.toList ((ss.map lst).take j) = (o,gl,decide (0 < j)))) (fun _ _ i _=>ss.length - (intOf i).toNat)
 case atStart=>exact ⟨0,n.size+2,n.data.toList++[58,32],w.heap.size+1,Nat.zero_le _,rfl,by go_num,by simp [Value.ownBlock],by omega,hB1,g1,hgs,HC,⟨by unfold linesW begin; rw [size_list]; rfl⟩⟩
 case round =>
  obtain ⟨j,gl,o,h,hj,rfl,rfl,hx,hhg,hown,hb,hgw,HCw,HW⟩:=hrel
  have hsz:=hb.size
  have hbd:=linesW_len n.data.toList ((ss.map lst).take j)
  rw [HW.out,size_list] at hbd
  have hbd2:=HL.out j
  have hbd3:((ss.map lst).take j).length ≤ j:=List.length_take_le _ _
  have hol:o.length ≤ 500000:=by have:=hbd.1; simp only at this; omega
  have hgl:gl ≤ 300000:=by have:=hbd.2; simp only at this; omega
  clear hbd hbd2 hbd3
  by_cases hlt:j < ss.length
  ·have hcx:=HCw.out j hlt
   obtain ⟨a,ha⟩:∃ a,a = ss[j]:=⟨_,rfl⟩
   rw [← ha] at hcx
   have has:a.size ≤ v.size:=by rw [ha]; exact HM.out _ (List.getElem_mem hlt)
   have HN:Box (linesW n.data.toList ((ss.map lst).take (j+1)) = if decide (0 < j) && decide (76 < gl+a.size) then (o++[13,10]++a.data.toList,a.size,true) else (o++a.data.toList,gl+a.size,true)):=⟨by
    have:=linesW_on n.data.toList (ss.map lst) j (lst a) (by rw [List.getElem?_map,List.getElem?_eq_getElem hlt,← ha]; rfl) HW.out
    rw [this,lst,size_list]⟩
   have hd:decide (0 < j+1) = true:=decide_eq_true (by omega)
   clear ha HW
   by_cases hbr:0 < j∧76 < gl+a.size
   ·have HN':Box (linesW n.data.toList ((ss.map lst).take (j+1)) = (o++[13,10]++a.data.toList,a.size,decide (0 < j+1))):=⟨by rw [HN.out,decide_eq_true hbr.1,decide_eq_true hbr.2,hd]; rfl⟩
    have z1:(0:Int) < (j:Int):=by omega
    have z2:(76:Int) < (gl:Int)+(a.size:Int):=by omega
    clear HN hbr hd
    go_wp2_with (first | (at_builtin; refine wp_appG _ w rfl (.tmp 31) _ rfl w.heap.size u3 _ rfl hown ⟨#[13,10]⟩ rfl (by simp [ByteArray.size_mk']; omega) hsz hb ?_; intro v2 w2 hown2 hb2 hg2 ho2) | (at_builtin; refine wp_appG _ w rfl (.tmp 33) _ rfl w.heap.size v2 _ rfl hown2 a rfl (by simp; omega) hb2.size hb2 ?_; intro v3 w3 hown3 hb3 hg3 ho3))
    have hs2:wr.heap.size ≤ w2.heap.size:=hg2.size
    have hs3:w2.heap.size ≤ w3.heap.size:=hg3.size
    have hx2:∃ h2,v2.ownBlock = some h2∧h2 ≠ g:=by
     rcases ho2 with q | q
     ·exact ⟨h,q.trans hx,hhg⟩
     ·exact ⟨_,q,by omega⟩
    obtain ⟨h2,hx2,hh2⟩:=hx2
    have hx3:∃ h3,v3.ownBlock = some h3∧h3 ≠ g:=by
     rcases ho3 with q | q
     ·exact ⟨h2,q.trans hx2,hh2⟩
     ·exact ⟨_,q,by omega⟩
    obtain ⟨h3,hx3,hh3⟩:=hx3
    have HC3:Box (∀ k (hk:k < ss.length),w3.cell? ⟨g,k,none⟩ = some (.string ss[k])):=⟨fun k hk=>by
     rw [grown_cell hg3 ⟨g,k,none⟩ (by show g < _; omega) (by rw [hx2]; simpa using hh2),grown_cell hg2 ⟨g,k,none⟩ hgw (by rw [hx]; simpa using hhg)]
     exact HCw.out k hk⟩
    go_roundw
    case rel=>exact ⟨j+1,a.size,_,h3,by omega,by go_num,by go_num,hx3,hh3,hown3,hb3,by omega,HC3,HN'⟩
    case measure=>simp [intOf]; omega
   ·have HN':Box (linesW n.data.toList ((ss.map lst).take (j+1)) = (o++a.data.toList,gl+a.size,decide (0 < j+1))):=⟨by
     rw [HN.out,if_neg,hd]
     intro hq
     simp at hq
     exact hbr hq⟩
    have hz:¬ (0:Int) < (j:Int) ∨ ((0:Int) < (j:Int)∧¬ (76:Int) < (gl:Int)+(a.size:Int)):=by omega
    clear HN hbr hd
    rcases hz with z1 | ⟨z1,z2⟩
    all_goals
     go_wp2_with (at_builtin; refine wp_appG _ w rfl (.tmp 33) _ rfl w.heap.size u3 _ rfl hown a rfl (by omega) hsz hb ?_; intro v3 w3 hown3 hb3 hg3 ho3)
     have hs3:wr.heap.size ≤ w3.heap.size:=hg3.size
     have hx3:∃ h3,v3.ownBlock = some h3∧h3 ≠ g:=by
      rcases ho3 with q | q
      ·exact ⟨h,q.trans hx,hhg⟩
      ·exact ⟨_,q,by omega⟩
     obtain ⟨h3,hx3,hh3⟩:=hx3
     have HC3:Box (∀ k (hk:k < ss.length),w3.cell? ⟨g,k,none⟩ = some (.string ss[k])):=⟨fun k hk=>by
      rw [grown_cell hg3 ⟨g,k,none⟩ hgw (by rw [hx]; simpa using hhg)]
      exact HCw.out k hk⟩
     go_roundw
     case rel=>exact ⟨j+1,gl+a.size,_,h3,by omega,by go_num,by go_num,hx3,hh3,hown3,hb3,by omega,HC3,HN'⟩
     case measure=>simp [intOf]; omega
  ·have HE:Box (R = o++[13,10]):=⟨by
    have:=HW.out
    rw [List.take_of_length_le (by rw [List.length_map]; omega)] at this
    rw [HR'.out,this]⟩
   clear HW HCw HL HM HR'
   go_wp2_with (at_builtin; refine wp_appG _ w rfl (.tmp 41) _ rfl w.heap.size _ _ rfl hown ⟨#[13,10]⟩ rfl (by simp [ByteArray.size_mk']; omega) hsz hb ?_; intro v3 w3 hown3 hb3 hg3 ho3)
   go_ret
   exact ⟨_,rfl,by rw [HE.out]; exact hown3,hb3⟩
end Go.Proofs.YtknhacbfddggpaaGreatDoor
namespace Go.Proofs.YtknhacbfddggpaaGreatDoor
open Go.RowKit
def Mid (L:List Fl):Prop:=L.length ≤ 8000∧∀ f ∈ L,f.1.size ≤ 24300∧f.2.size ≤ 24300
theorem Mid.tiny {L:List Fl} (h:Mid L):Tiny L:=⟨Nat.le_trans h.1 (by decide),fun f hf=>⟨Nat.le_trans (h.2 f hf).1 (by decide),Nat.le_trans (h.2 f hf).2 (by decide)⟩⟩
def fieldB (f:Fl):List UInt8:=fieldS f.1.data.toList f.2.data.toList
def fieldsB (L:List Fl):List UInt8:=(L.map fieldB).flatten
theorem fieldsB_snoc (L:List Fl) (k:Nat) (f:Fl) (h:L[k]? = some f):fieldsB (L.take (k+1)) = fieldsB (L.take k)++fieldB f:=by
 unfold fieldsB
 rw [take_snocF L k f h]; simp
theorem fieldB_len (f:Fl) (h:f.1.size ≤ 24300∧f.2.size ≤ 24300):(fieldB f).length ≤ 97206:=by
 have:=fieldS_len f.1.data.toList f.2.data.toList
 rw [size_list,size_list] at this
 unfold fieldB
 omega
theorem fieldsB_len (L:List Fl) (h:∀ f ∈ L,f.1.size ≤ 24300∧f.2.size ≤ 24300):(fieldsB L).length ≤ L.length * 97206:=by
 induction L with
 | nil=>exact Nat.le_refl _
 | cons f L ih =>
  have h1:=fieldB_len f (h f List.mem_cons_self)
  have h2:=ih fun g hg=>h g (List.mem_cons_of_mem _ hg)
  have:fieldsB (f :: L) = fieldB f++fieldsB L:=rfl
  rw [this,List.length_append,List.length_cons]
  omega
def ErrAt (w:World) (E:Value) (n p:Int):Prop:=∃ b,E = .iface 148 (.pointer (some ⟨b,0,none⟩))∧w.cell? ⟨b,0,none⟩ = some (.int .i64 n)∧w.cell? ⟨b,1,none⟩ = some (.int .i64 p)
set_option maxHeartbeats 1600000 in
set_option maxRecDepth 100000 in
theorem write_good (v:Value) (L:List Fl) (w:World) (hM:Mid L) (hF:FL w v L) (hW:firstW L = L.length) :
  Calls Tryz.prog 151 #[v] w fun e w'=>∃ S:ByteArray,e = .returned (.tuple #[.string S,.nilIface])∧S.data.toList = fieldsB L++[13,10]∧Below w.heap.size w w':=by
 have hlen:=hM.1
 have HM:=Box.mk hM
 have HF:=Box.mk hF
 have HW:=Box.mk hW
 obtain ⟨A,cap,rfl,hcap,hcells⟩:=hF
 have HC:=Box.mk hcells
 clear hcells hM hW
 go_enter Tryz.func151,Tryz.ntmps151
 go_wp2_with fail
 refine (firstWrong_any _ L _ HM.out.tiny HF.out).mono ?_
 rw [HW.out]
 rintro e w1 ⟨rfl,hb0⟩
 clear HF HW
 go_wp2
 go_loopw [5,20] (fun x i wr=>∃ k:Nat,k ≤ L.length∧i = .int .i64 k∧Own wr w.heap.size x (fieldsB (L.take k))∧Below w.heap.size w wr) (fun _ i _=>L.length - (intOf i).toNat)
 case atStart=>exact ⟨0,Nat.zero_le _,rfl,Own.nil _ _,hb0⟩
 case round =>
  obtain ⟨k,hk,rfl,hown,hb⟩:=hrel
  have hsz:=hb.size
  have hol:(fieldsB (L.take k)).length ≤ 777648000:=by
   have:=fieldsB_len (L.take k) fun f hf=>HM.out.2 f (List.mem_of_mem_take hf)
   have h2:(L.take k).length ≤ L.length:=List.length_take_le' _ _
   exact Nat.le_trans this (Nat.mul_le_mul_right _ (Nat.le_trans h2 HM.out.1))
  by_cases hlt:k < L.length
  ·have hs:=HM.out.2 L[k] (List.getElem_mem hlt)
   obtain ⟨b,off,n,v,rfl,HN,hn,hv,hbl,d0,d1⟩:=HC.out.elem HM.out.tiny hb k hlt
   have hnv:L[k] = (n,v):=by
    have:=HN.out
    rw [List.getElem?_eq_getElem hlt] at this
    exact Option.some.inj this
   rw [hnv] at hs
   have HS:Box (fieldsB (L.take (k+1)) = fieldsB (L.take k)++fieldS n.data.toList v.data.toList):=⟨fieldsB_snoc L k _ HN.out⟩
   have hfl:=fieldB_len (n,v) hs
   have hfl':(fieldS n.data.toList v.data.toList).length ≤ 97206:=hfl
   have hs1:n.size ≤ 24300:=hs.1
   have hs2:v.size ≤ 24300:=hs.2
   have hb2:=hb.alloc hsz (.cells #[.string n,.string v] 75)
   have hownA:Own (wr.alloc (.cells #[.string n,.string v] 75)) w.heap.size u5 (fieldsB (L.take k)):=World.ownsRow.alloc hown _
   clear HC HM HN hnv hs hfl hn hv hown
   go_wp2_with fail
   refine (written_any n v _ (by omega) (by omega)).mono ?_
   rintro e w2 ⟨x,rfl,hx,hb3⟩
   have hown2:=hownA.below hb3 (Nat.le_refl _)
   have hb4:=hb2.trans (hb3.mono hb2.size)
   clear hownA hb2 hb3
   generalize fieldS n.data.toList v.data.toList = fl at hx HS hfl'
   have hxc:=hx
   obtain ⟨g,c,cur,fz,rfl,hgB,_⟩:=hx
   go_wp2_with (at_builtin; refine wp_app _ w rfl (.tmp 24) (.tmp 26) rfl w.heap.size _ _ rfl hown2 ⟨g,0,none⟩ _ c fl rfl rfl (fun j hj=>by rw [Addr.add_lit,Nat.zero_add]; exact (hxc.cell j hj).1) (by omega) hb4.size hb4 ?_; intro v' w3 hown3 hb5 _)
   go_roundw
   case rel=>exact ⟨k+1,by omega,by go_num,by rw [HS.out]; exact hown3,hb5⟩
   case measure=>simp [intOf]; omega
  ·have HE:Box (fieldsB (L.take k) = fieldsB L):=⟨by rw [List.take_of_length_le (by omega)]⟩
   rw [HE.out] at hown hol
   clear HC HM HE
   go_wp2_with (at_builtin; refine wp_appS _ w rfl (.tmp 29) _ rfl w.heap.size u5 _ rfl hown ⟨#[13,10]⟩ rfl (by simp [ByteArray.size_mk']; omega) hsz hb ?_; intro v2 w2 hown2 hb2; have hcv:=hown2.string)
   go_ret2
   exact ⟨_,rfl,rfl,hb2⟩
def Phase (vl:List UInt8) (k:Nat) (ws:List (List UInt8)) (wd:List UInt8):Prop:=
 (k ≤ vl.length∧∃ f,wordsTo vl k = (ws,f)∧wd = (vl.drop f).take (k - f)) ∨ (k = vl.length+1∧ws = wordsS vl∧wd = [])
end Go.Proofs.YtknhacbfddggpaaGreatDoor
