import Derived.Test.YtknhacbfddggpaaGreatDoorZ20
import Derived.Test.YtknhacbfddggpaaGreatDoorZ5
import Derived.Test.YtknhacbfddggpaaGreatDoorZ6
import Derived.Test.YtknhacbfddggpaaGreatDoorZ1
import Derived.OwnWalk
import Derived.Deep.QuietTactic
import Derived.BigQuiet
namespace Go.Proofs.YtknhacbfddggpaaGreatDoor
open Go.RowKit
theorem OwnS.take {w:World} {B g cap n:Nat} {l:List ByteArray} (h:OwnS w B (.slice (some ⟨g,0,none⟩) n cap) l) (m:Nat) (hm:m ≤ l.length):OwnS w B (.slice (some ⟨g,0,none⟩) m cap) (l.take m):=by
 obtain ⟨h1,h2⟩:=h
 have hlen:(l.take m).length = m:=by simp; omega
 refine ⟨by simp,?_⟩
 rcases h2 with ⟨h2,_⟩ | ⟨g',cap',cur,a,b,c,d,e,f,i⟩
 ·cases h2
 ·simp only [Value.slice.injEq,Option.some.injEq,Addr.mk.injEq,and_true] at a
  obtain ⟨rfl,rfl,rfl⟩:=a
  refine .inr ⟨g,cap,cur,by rw [hlen],b,c,by omega,e,f,?_⟩
  rw [hlen]
  have:(l.take m).map Value.string = (l.map Value.string).take m:=by simp
  rw [this,← i,List.take_take]
  congr 1
  omega
def measP (l:List (List UInt8)):Nat:=(l.map fun x=>x.length+1).sum
theorem measP_append (a b:List (List UInt8)):measP (a++b) = measP a+measP b:=by simp [measP]
theorem measP_cons (x:List UInt8) (l:List (List UInt8)):measP (x :: l) = x.length+1+measP l:=by simp [measP]
theorem joinP_meas:∀ l:List (List UInt8),l ≠ [] → (joinP l).length+1 = measP l
 | [],h=>absurd rfl h
 | [x],_=>by simp [joinP,measP]
 | x :: y :: r,_=>by
  have:=joinP_meas (y :: r) (by simp)
  rw [joinP_cons x (y :: r) (by simp),measP_cons,← this]
  simp; omega
theorem popP_meas (o:List (List UInt8)):measP (popP o) ≤ measP o:=by
 unfold popP
 split
 ·exact Nat.le_refl _
 ·cases h:o with
  | nil=>exact Nat.le_refl _
  | cons a l =>
   have e:=List.dropLast_concat_getLast (show a :: l ≠ [] by simp)
   have:measP (a :: l) = measP (a :: l).dropLast+measP [(a :: l).getLast (by simp)]:=by rw [← measP_append,e]
   omega
theorem stepO_meas (o:List (List UInt8)) (f:Bool) (x:List UInt8) (last:Bool):measP (stepO o f x last) ≤ measP o+(x.length+1):=by
 have hp:=popP_meas o
 unfold stepO
 split
 ·omega
 ·split
  ·rw [measP_append]; simp [measP]
  ·split
   ·rw [measP_append]
    have:measP [([]:List UInt8)] = 1:=rfl
    split <;> omega
   ·split <;> omega
theorem dotsG_meas:∀ (l o:List (List UInt8)) (f:Bool),measP (dotsG o f l) ≤ measP o+measP l
 | [],o,f=>by simp [dotsG]
 | x :: r,o,f=>by
  rw [dotsG_step,measP_cons]
  have h1:=dotsG_meas r (stepO o f x r.isEmpty) false
  have h2:=stepO_meas o f x r.isEmpty
  omega
theorem dotsS_length (p:List UInt8):(dotsS p).length ≤ p.length:=by
 have h1:=dotsG_meas (splitP p) [] true
 have h2:=joinP_meas _ (dotsS_whole p).1
 have h3:=joinP_meas _ (splitP_ne p)
 rw [join_split] at h3
 have:measP ([]:List (List UInt8)) = 0:=rfl
 unfold dotsS
 omega
theorem upP_snoc (o:List (List UInt8)) (x:List UInt8):upP (o++[x]) = if x = [] then o++[x] else o:=by
 unfold upP
 by_cases h:x = []
 ·subst h; simp
 ·have:¬ (o++[x] = [] ∨ (o++[x]).getLast? = some []):=by simp [h]
  rw [if_neg this,if_neg h,List.dropLast_concat]
set_option maxHeartbeats 800000 in
theorem up_any (v:Value) (l:List ByteArray) (w:World) (B:Nat) (hown:OwnS w B v l) (hl:l.length ≤ 10000000) :
  Calls Tryz.prog 134 #[v] w fun e w'=>∃ v' l',e = .returned v'∧OwnS w B v' l'∧l'.map lst = upP (l.map lst)∧l'.length ≤ l.length∧w' = w:=by
 rcases hown.shape with ⟨rfl,rfl⟩ | ⟨g,cap,rfl,hB,hg,hcap,hmax,hcells⟩
 ·go_enter Tryz.func134,Tryz.ntmps134
  go_wp2
  go_ret
  exact ⟨_,[],rfl,hown,rfl,Nat.le_refl _,rfl⟩
 ·rcases List.eq_nil_or_concat l with rfl | ⟨o,x,rfl⟩
  ·go_enter Tryz.func134,Tryz.ntmps134
   go_wp2
   go_ret
   exact ⟨_,[],rfl,hown,rfl,Nat.le_refl _,rfl⟩
  ·have hc:=hcells o.length (by simp)
   simp only [List.concat_eq_append,List.length_append,List.length_cons,List.length_nil,Nat.zero_add,List.getElem_concat_length] at hc hown hl ⊢
   simp only [List.concat_eq_append,List.length_append,List.length_cons,List.length_nil,Nat.zero_add] at hcap
   have ho:=hown.take o.length (by simp)
   rw [List.take_left] at ho
   obtain ⟨n,hn⟩:∃ n,n = o.length:=⟨_,rfl⟩
   have HO:=Box.mk hown
   have HT:=Box.mk ho
   have HU:=Box.mk (upP_snoc (o.map lst) (lst x))
   clear hcells hown ho
   rw [← hn] at hc hl hcap HO HT ⊢
   have HN:=Box.mk hn
   clear hn
   by_cases h0:x.size = 0
   ·have he:=empty_of x h0
    have HE:Box (lst x = []):=⟨data_nil x h0⟩
    clear h0
    go_enter Tryz.func134,Tryz.ntmps134
    go_wp2
    go_ret
    exact ⟨_,_,rfl,HO.out,by rw [List.map_append,List.map_singleton,HU.out,if_pos HE.out],Nat.le_of_eq (by rw [HN.out]; simp),rfl⟩
   ·have he:=nonempty_of x h0
    have HE:Box (¬ lst x = []):=⟨fun e=>h0 (by rw [← size_list]; exact congrArg List.length e)⟩
    clear h0
    go_enter Tryz.func134,Tryz.ntmps134
    go_wp2
    go_ret
    exact ⟨_,_,rfl,HT.out,by rw [List.map_append,List.map_singleton,HU.out,if_neg HE.out],by rw [HN.out]; exact Nat.le_succ _,rfl⟩
theorem asplit_any (s:ByteArray) (w:World) (hs:s.size ≤ 1000000) (hm:Max w) :
  Calls Tryz.prog 133 #[.string s,.string ⟨#[47]⟩] w fun e w'=>∃ (c:Nat) (pb:List ByteArray),e = .returned (.slice (some ⟨w.heap.size,0,none⟩) (c+1) (c+1))∧pb.length = c+1∧pb.map lst = splitP s.data.toList∧c ≤ s.size ∧
   (∀ k (hk:k < pb.length),w'.cell? ⟨w.heap.size,k,none⟩ = some (.string pb[k]))∧w'.heap.size = w.heap.size+1∧Below w.heap.size w w':=by
 obtain ⟨_,m,hm⟩:=hm
 refine (Tryz.strings_Split s ⟨#[47]⟩ m w (by omega) hm (by decide)).mono ?_
 rintro e w' ⟨rfl,rfl⟩
 have hlen:=Lib.splitB_all ⟨#[47]⟩ (by decide) 0 _ s rfl
 have hcnt:=Lib.countB_le ⟨#[47]⟩ (by decide) _ s (Nat.le_refl _)
 refine ⟨_,Lib.splitB ⟨#[47]⟩ 0 (Lib.countB s ⟨#[47]⟩) s,rfl,hlen,split_slash s,by omega,?_,by simp,(Below.refl _ _).alloc (Nat.le_refl _) _⟩
 intro k hk
 have h:(w.alloc (.cells ((Lib.splitB ⟨#[47]⟩ 0 (Lib.countB s ⟨#[47]⟩) s).map Value.string).toArray 9)).heap[w.heap.size]? = some (.cells ((Lib.splitB ⟨#[47]⟩ 0 (Lib.countB s ⟨#[47]⟩) s).map Value.string).toArray 9 (0,0)):=by
  show (w.heap.push _)[w.heap.size]? = _
  simp
 simp only [World.cell?,h]
 simp [List.getElem?_eq_getElem hk]
theorem lst_is {x:ByteArray} {l:List UInt8} (h:lst x = l):(x.toList == l) = true:=by rw [ByteArray.toList_eq,beq_iff_eq]; exact h
theorem lst_not {x:ByteArray} {l:List UInt8} (h:¬ lst x = l):(x.toList == l) = false:=by rw [ByteArray.toList_eq,beq_eq_false_iff_ne]; exact h
theorem dots_round {pb o:List ByteArray} {k c:Nat} {x:ByteArray} (hD:dotsG [] true (pb.map lst) = dotsG (o.map lst) (decide (k = 0)) ((pb.map lst).drop k)) (hX:pb[k]? = some x) (hk:k < c+1) (hl:pb.length = c+1) :
  dotsG [] true (pb.map lst) = dotsG (stepO (o.map lst) (decide (k = 0)) (lst x) (decide (k = c))) (decide (k+1 = 0)) ((pb.map lst).drop (k+1)):=by
 have hlt:k < (pb.map lst).length:=by simp; omega
 have hx:(pb.map lst)[k] = lst x:=by
  have:=(List.getElem?_eq_some_iff.1 hX).2
  simp [this]
 have he:((pb.map lst).drop (k+1)).isEmpty = decide (k = c):=by
  rw [Bool.eq_iff_iff,List.isEmpty_iff,List.drop_eq_nil_iff,decide_eq_true_iff,List.length_map]
  omega
 rw [hD,List.drop_eq_getElem_cons hlt,dotsG_step,hx,he,decide_eq_false (show ¬ k+1 = 0 by omega)]
theorem stepO_dd_last (o:List (List UInt8)) (f:Bool):stepO o f dotdot true = popP o++[[]]:=by simp [stepO,dotdot,dot]
theorem stepO_dd (o:List (List UInt8)) (f:Bool):stepO o f dotdot false = popP o:=by simp [stepO,dotdot,dot]
theorem stepO_d_last (o:List (List UInt8)) (f:Bool):stepO o f dot true = o++[[]]:=by simp [stepO,dotdot,dot]
theorem stepO_d (o:List (List UInt8)) (f:Bool):stepO o f dot false = o:=by simp [stepO,dotdot,dot]
theorem stepO_on (o:List (List UInt8)) (f:Bool) (x:List UInt8) (l:Bool) (h1:¬ x = dot) (h2:¬ x = dotdot) (h:¬ (x = []∧l = false∧f = false)):stepO o f x l = o++[x]:=by
 unfold stepO
 rw [if_neg h,if_pos ⟨h1,h2⟩]
theorem ajoin_any (g cap:Nat) (o:List ByteArray) (w:World) (s:ByteArray) (ho:o.map lst = dotsG [] true (splitP s.data.toList)) (hc:∀ k (hk:k < o.length),w.cell? ⟨g,k,none⟩ = some (.string o[k])) (hg:g < w.heap.size) (hcap:o.length ≤ cap) (hl:o.length ≤ 10000000) (hs:s.size ≤ 1000000) :
  Calls Tryz.prog 135 #[.slice (some ⟨g,0,none⟩) o.length cap,.string ⟨#[47]⟩] w fun e w'=>∃ S:ByteArray,e = .returned (.string S)∧S.data.toList = dotsS s.data.toList∧Below w.heap.size w w':=by
 have hj:Lib.join (o.map (·.data.toList)) [47] = dotsS s.data.toList:=by
  rw [join_slash]
  show joinP (o.map lst) = _
  rw [ho]; rfl
 have hd:=dotsS_length s.data.toList
 rw [size_list] at hd
 refine (Tryz.strings_Join g 0 cap o ⟨#[47]⟩ w (fun j x hx=>?_) hg (by omega) hcap ?_).mono ?_
 ·obtain ⟨h1,h2⟩:=List.getElem?_eq_some_iff.1 hx
  rw [Nat.zero_add,hc j h1,h2]
 ·show (Lib.join (o.map (·.data.toList)) [47]).length ≤ _
  rw [hj]; omega
 ·rintro e w' ⟨rfl,hb⟩
  exact ⟨_,rfl,hj,hb⟩
set_option maxHeartbeats 4000000 in
set_option maxRecDepth 100000 in
theorem adots_any (s:ByteArray) (w:World) (hs:s.size ≤ 1000000) (hm:Max w) :
  Calls Tryz.prog 83 #[.string s] w fun e w'=>∃ S:ByteArray,e = .returned (.string S)∧S.data.toList = dotsS s.data.toList∧Below w.heap.size w w':=by
 go_enter Tryz.func83,Tryz.ntmps83
 go_wp2_with fail
 refine (asplit_any s _ hs hm).mono ?_
 rintro e w1 ⟨c,pb,rfl,hpl,hpb,hcs,hcell,hsz1,hb1⟩
 have HP:=Box.mk hpb
 have HC:=Box.mk hcell
 clear hpb hcell
 go_wp2
 go_loopw [5,15] (fun v i wr=>∃ (k:Nat) (o:List ByteArray),k ≤ c+1∧i = .int .i64 k∧o.length ≤ k∧OwnS wr w1.heap.size v o∧Below w1.heap.size w1 wr∧Box (dotsG [] true (pb.map lst) = dotsG (o.map lst) (decide (k = 0)) ((pb.map lst).drop k))∧Box (k < c+1 → FirstE (o.map lst))∧Box (k = 0 → o = [])) (fun _ i _=>c+1 - (intOf i).toNat)
 case atStart=>exact ⟨0,[],Nat.zero_le _,rfl,Nat.le_refl _,OwnS.nil _ _,Below.refl _ _,⟨rfl⟩,⟨fun _ x hx=>absurd hx (by simp)⟩,⟨fun _=>rfl⟩⟩
 case round =>
  obtain ⟨k,o,hk,rfl,hol,hown,hb,HD,HF,HZ⟩:=hrel
  have hsz:=hb.size
  by_cases hlt:k < c+1
  ·obtain ⟨x,HX,hx⟩:∃ x,Box (pb[k]? = some x)∧wr.cell? ⟨w.heap.size,k,none⟩ = some (.string x):=
    ⟨_,⟨List.getElem?_eq_getElem (by omega)⟩,(hb.cell (p:=⟨w.heap.size,k,none⟩) (show w.heap.size < _ by omega)).trans (HC.out k (by omega))⟩
   have HS:Box (dotsG [] true (pb.map lst) = dotsG (stepO (o.map lst) (decide (k = 0)) (lst x) (decide (k = c))) (decide (k+1 = 0)) ((pb.map lst).drop (k+1))):=⟨dots_round HD.out HX.out (by omega) hpl⟩
   have HF':Box (k+1 < c+1 → FirstE (stepO (o.map lst) (decide (k = 0)) (lst x) (decide (k = c)))):=⟨fun h=>by rw [decide_eq_false (show ¬ k = c by omega)]; exact stepO_firstE (HF.out hlt) (fun h0=>by rw [HZ.out (of_decide_eq_true h0)]; rfl)⟩
   have HUp:Box (upP (o.map lst) = popP (o.map lst)):=⟨upP_pop (HF.out hlt)⟩
   have HZ':Box (k+1 = 0 → o = []):=⟨fun h=>absurd h (by omega)⟩
   clear HD HF HZ HX HP HC
   by_cases hdd:lst x = dotdot
   ·have q2:(x.toList == [46,46]) = true:=lst_is hdd
    have q1:(x.toList == [46]) = false:=lst_not (by rw [hdd]; decide)
    go_wp2_with fail
    refine (up_any _ o wr _ hown (by omega)).mono ?_
    rintro e w2 ⟨v2,o2,rfl,hown2,hm2,hl2,rfl⟩
    have HM:Box (o2.map lst = popP (o.map lst)):=⟨hm2.trans HUp.out⟩
    clear hm2 hown
    by_cases hkc:k = c
    ·have q3:((k:Int) == (c:Int)) = true:=beqI (by omega)
     have HE:Box (stepO (o.map lst) (decide (k = 0)) (lst x) (decide (k = c)) = (o2++[(⟨#[]⟩:ByteArray)]).map lst):=⟨by rw [List.map_append,HM.out,hdd,decide_eq_true hkc]; exact stepO_dd_last _ _⟩
     have HKc:=Box.mk hkc
     clear hkc hdd
     go_wp2_with (at_builtin; refine wp_appT _ w1 rfl _ _ rfl w1.heap.size v2 o2 rfl (by exact hown2) ⟨#[]⟩ rfl (by omega) (by exact hsz) (by exact hb) ?_; intro v3 w3 hown3 hb3)
     go_roundw
     case rel=>exact ⟨k+1,o2++[⟨#[]⟩],by omega,by go_num,by simp; omega,hown3,hb3,⟨by rw [HS.out,HE.out]⟩,⟨fun h=>by have:=HKc.out; omega⟩,⟨fun h=>absurd h (by omega)⟩⟩
     case measure=>simp [intOf]; omega
    ·have q3:((k:Int) == (c:Int)) = false:=bneI (by omega)
     have HE:Box (stepO (o.map lst) (decide (k = 0)) (lst x) (decide (k = c)) = o2.map lst):=⟨by rw [HM.out,hdd,decide_eq_false hkc]; exact stepO_dd _ _⟩
     clear hkc hdd
     go_wp2
     go_roundw
     case rel=>exact ⟨k+1,o2,by omega,by go_num,by omega,hown2,hb,⟨by rw [HS.out,HE.out]⟩,⟨fun h=>by rw [← HE.out]; exact HF'.out h⟩,⟨fun h=>absurd h (by omega)⟩⟩
     case measure=>simp [intOf]; omega
   ·have q2:(x.toList == [46,46]) = false:=lst_not hdd
    by_cases hd:lst x = dot
    ·have q1:(x.toList == [46]) = true:=lst_is hd
     by_cases hkc:k = c
     ·have q3:((k:Int) == (c:Int)) = true:=beqI (by omega)
      have HE:Box (stepO (o.map lst) (decide (k = 0)) (lst x) (decide (k = c)) = (o++[(⟨#[]⟩:ByteArray)]).map lst):=⟨by rw [List.map_append,hd,decide_eq_true hkc]; exact stepO_d_last _ _⟩
      have HKc:=Box.mk hkc
      clear hkc hdd hd
      go_wp2_with (at_builtin; refine wp_appT _ w1 rfl _ _ rfl w1.heap.size _ o rfl (by exact hown) ⟨#[]⟩ rfl (by omega) (by exact hsz) (by exact hb) ?_; intro v3 w3 hown3 hb3)
      go_roundw
      case rel=>exact ⟨k+1,o++[⟨#[]⟩],by omega,by go_num,by simp; omega,hown3,hb3,⟨by rw [HS.out,HE.out]⟩,⟨fun h=>by have:=HKc.out; omega⟩,⟨fun h=>absurd h (by omega)⟩⟩
      case measure=>simp [intOf]; omega
     ·have q3:((k:Int) == (c:Int)) = false:=bneI (by omega)
      have HE:Box (stepO (o.map lst) (decide (k = 0)) (lst x) (decide (k = c)) = o.map lst):=⟨by rw [hd,decide_eq_false hkc]; exact stepO_d _ _⟩
      clear hkc hdd hd
      go_wp2
      go_roundw
      case rel=>exact ⟨k+1,o,by omega,by go_num,by omega,hown,hb,⟨by rw [HS.out,HE.out]⟩,⟨fun h=>by rw [← HE.out]; exact HF'.out h⟩,⟨fun h=>absurd h (by omega)⟩⟩
      case measure=>simp [intOf]; omega
    ·have q1:(x.toList == [46]) = false:=lst_not hd
     by_cases hsk:x.size = 0∧¬ k = 0∧¬ k = c
     ·have q0:=empty_of x hsk.1
      have q3:((k:Int) == (c:Int)) = false:=bneI (by omega)
      have q4:((k:Int) == 0) = false:=bneI (by omega)
      have HE:Box (stepO (o.map lst) (decide (k = 0)) (lst x) (decide (k = c)) = o.map lst):=⟨by rw [show lst x = [] from data_nil x hsk.1,decide_eq_false hsk.2.1,decide_eq_false hsk.2.2]; rfl⟩
      clear hsk hdd hd
      go_wp2
      go_roundw
      case rel=>exact ⟨k+1,o,by omega,by go_num,by omega,hown,hb,⟨by rw [HS.out,HE.out]⟩,⟨fun h=>by rw [← HE.out]; exact HF'.out h⟩,⟨fun h=>absurd h (by omega)⟩⟩
      case measure=>simp [intOf]; omega
     ·have HE:Box (stepO (o.map lst) (decide (k = 0)) (lst x) (decide (k = c)) = (o++[x]).map lst):=⟨by rw [List.map_append]; exact stepO_on _ _ _ _ hd hdd (fun h=>hsk ⟨by rw [← size_list]; exact congrArg List.length h.1,of_decide_eq_false h.2.2,of_decide_eq_false h.2.1⟩)⟩
      have hcs3:x.toList.isEmpty = false ∨ (x.toList.isEmpty = true∧((k:Int) == 0) = true) ∨ (x.toList.isEmpty = true∧((k:Int) == 0) = false∧((k:Int) == (c:Int)) = true):=by
       by_cases h0:x.size = 0
       ·by_cases hk0:k = 0
        ·exact .inr (.inl ⟨empty_of x h0,beqI (by omega)⟩)
        ·exact .inr (.inr ⟨empty_of x h0,bneI (by omega),beqI (by have:¬ ¬ k = c:=fun h=>hsk ⟨h0,hk0,h⟩; omega)⟩)
       ·exact .inl (nonempty_of x h0)
      clear hsk hdd hd
      rcases hcs3 with q0 | ⟨q0,q4⟩ | ⟨q0,q4,q3⟩
      all_goals
       go_wp2_with (at_builtin; refine wp_appT _ w1 rfl _ _ rfl w1.heap.size _ o rfl (by exact hown) x rfl (by omega) (by exact hsz) (by exact hb) ?_; intro v3 w3 hown3 hb3)
       go_roundw
       case rel=>exact ⟨k+1,o++[x],by omega,by go_num,by simp; omega,hown3,hb3,⟨by rw [HS.out,HE.out]⟩,⟨fun h=>by rw [← HE.out]; exact HF'.out h⟩,⟨fun h=>absurd h (by omega)⟩⟩
       case measure=>simp [intOf]; omega
  ·have HE:Box (o.map lst = dotsG [] true (splitP s.data.toList)):=⟨by rw [← HP.out,HD.out,List.drop_of_length_le (by simp; omega)]; cases decide (k = 0) <;> rfl⟩
   clear HD HF HZ HC HP
   have b2:=hb1.trans (hb.mono (by omega))
   rcases hown.shape with ⟨rfl,rfl⟩ | ⟨g,cap,rfl,hB,hg,hcap,hmax,hcells⟩
   ·exfalso
    exact (dotsS_whole s.data.toList).1 HE.out.symm
   ·have HCl:=Box.mk hcells
    clear hcells hown
    go_wp2_with fail
    refine (ajoin_any g cap o wr s HE.out HCl.out hg hcap (by omega) hs).mono ?_
    rintro e w2 ⟨S,rfl,hS,hb3⟩
    go_wp2
    go_ret
    exact ⟨S,rfl,hS,b2.trans (hb3.mono (Nat.le_trans hb1.size hsz))⟩
end Go.Proofs.YtknhacbfddggpaaGreatDoor
namespace Go.Proofs.YtknhacbfddggpaaGreatDoor
open Go.RowKit
end Go.Proofs.YtknhacbfddggpaaGreatDoor
namespace Go.Proofs.YtknhacbfddggpaaGreatDoor
open Go.RowKit
structure Blk (w:World) (b:Nat) (v0 v1 v2 v3 v4 v5 v6 v7:Value):Prop where
 c0:w.cell? ⟨b,0,none⟩ = some v0
 c1:w.cell? ⟨b,1,none⟩ = some v1
 c2:w.cell? ⟨b,2,none⟩ = some v2
 c3:w.cell? ⟨b,3,none⟩ = some v3
 c4:w.cell? ⟨b,4,none⟩ = some v4
 c5:w.cell? ⟨b,5,none⟩ = some v5
 c6:w.cell? ⟨b,6,none⟩ = some v6
 c7:w.cell? ⟨b,7,none⟩ = some v7
 fz:∀ i,w.frozen? ⟨b,i,none⟩ = false
theorem blk_of {w:World} {b:Nat} {v0 v1 v2 v3 v4 v5 v6 v7:Value} (h:w.heap[b]? = some (.cells #[v0,v1,v2,v3,v4,v5,v6,v7] 36 (0,0))):Blk w b v0 v1 v2 v3 v4 v5 v6 v7:=
 ⟨by simp [World.cell?,h],by simp [World.cell?,h],by simp [World.cell?,h],by simp [World.cell?,h],by simp [World.cell?,h],by simp [World.cell?,h],by simp [World.cell?,h],by simp [World.cell?,h],fun i=>by simp [World.frozen?,h]⟩
theorem heap_three (w:World) (A B Z:Obj):(((w.alloc A).alloc B).alloc Z).heap[w.heap.size]? = some A∧(((w.alloc A).alloc B).alloc Z).heap[w.heap.size+1]? = some B∧(((w.alloc A).alloc B).alloc Z).heap[w.heap.size+2]? = some Z:=by
 refine ⟨?_,?_,?_⟩
 ·show ((((w.heap.push A).push B).push Z))[w.heap.size]? = _
  rw [Array.getElem?_push,if_neg (by simp; omega),Array.getElem?_push,if_neg (by simp),Array.getElem?_push,if_pos rfl]
 ·show ((((w.heap.push A).push B).push Z))[w.heap.size+1]? = _
  rw [Array.getElem?_push,if_neg (by simp),Array.getElem?_push,if_pos (by simp)]
 ·show ((((w.heap.push A).push B).push Z))[w.heap.size+2]? = _
  rw [Array.getElem?_push,if_pos (by simp)]
theorem size_three (w:World) (A B Z:Obj):(((w.alloc A).alloc B).alloc Z).heap.size = w.heap.size+3:=by simp
theorem below_three (w:World) (A B Z:Obj):Below w.heap.size w (((w.alloc A).alloc B).alloc Z):=(((Below.refl w.heap.size w).alloc (Nat.le_refl _) _).alloc (by simp) _).alloc (by simp; omega) _
theorem below_dN {B:Nat} {a w:World} (h:Below B a w) (n:Nat):Below B a (w.drewN n):=h.trans ⟨rfl,rfl,rfl,Nat.le_refl _,fun _ _=>rfl⟩
def besideA (b:AB) (p:List UInt8):List UInt8:=if p.head? = some 47 then p else dirA b++p
theorem one_slash (t:List UInt8):Lib.hasPrefix t [47] = decide (t.head? = some 47):=by
 unfold Lib.hasPrefix
 cases t with
 | nil=>rfl
 | cons a t =>
  rw [Bool.eq_iff_iff]
  simp only [List.isPrefixOf,Bool.and_true,beq_iff_eq,decide_eq_true_eq,List.head?_cons,Option.some.injEq]
  exact eq_comm
theorem lastb_any (pa:ByteArray) (z:Int) (hz:Lib.lastIndexByte pa 47 = z) (hs:pa.size ≤ 400000) (w:World):Calls Tryz.prog 136 #[.string pa,.int .u8 47] w fun e w'=>e = .returned (.int .i64 z)∧w' = w:=by
 refine (Tryz.strings_LastIndexByte pa 47 (by omega) w).mono ?_
 rintro e w' ⟨rfl,rfl⟩
 exact ⟨ret_int hz,rfl⟩
set_option maxHeartbeats 1000000 in
set_option maxRecDepth 100000 in
theorem beside_any (sc au pa qu fr p:ByteArray) (hA hQ hF:Bool) (w:World) (s2:pa.size ≤ 400000) (s5:p.size ≤ 400000) :
  Calls Tryz.prog 84 #[.agg #[.string sc,.bool hA,.string au,.string pa,.bool hQ,.string qu,.bool hF,.string fr],.string p] w fun e w'=>∃ S:ByteArray,e = .returned (.string S)∧S.data.toList = besideA (AV.ab ⟨sc,hA,au,pa,hQ,qu,hF,fr⟩) p.data.toList∧S.size ≤ pa.size+p.size+1∧Below w.heap.size w w':=by
 have hb:=(Below.refl w.heap.size w).alloc (Nat.le_refl _) (.cells #[.string sc,.bool hA,.string au,.string pa,.bool hQ,.string qu,.bool hF,.string fr] 36)
 cases h1:decide (p.data.toList.head? = some 47)
 ·have HB:Box (besideA (AV.ab ⟨sc,hA,au,pa,hQ,qu,hF,fr⟩) p.data.toList = dirA (AV.ab ⟨sc,hA,au,pa,hQ,qu,hF,fr⟩)++p.data.toList):=⟨by unfold besideA; rw [if_neg (of_decide_eq_false h1)]⟩
  have h1':=Box.mk ((one_slash p.data.toList).trans h1)
  clear h1
  by_cases h2:hA = true∧pa.size = 0
  ·obtain ⟨rfl,h3⟩:=h2
   have he:=empty_of pa h3
   have HD:Box (dirA (AV.ab ⟨sc,true,au,pa,hQ,qu,hF,fr⟩) = [47]):=⟨by unfold dirA; rw [if_pos ⟨rfl,data_nil pa h3⟩]⟩
   clear h3
   go_enter Tryz.func84,Tryz.ntmps84
   go_wp2_with fail
   refine (Tryz.strings_HasPrefix p ⟨#[47]⟩ _).mono ?_
   rintro e w1 ⟨rfl,rfl⟩
   rw [show (⟨#[47]⟩:ByteArray).data.toList = [47] from rfl,h1'.out]
   go_wp2
   go_ret
   exact ⟨_,rfl,by rw [HB.out,HD.out]; simp,by rw [ByteArray.size_append]; show 1+p.size ≤ _; omega,hb⟩
  ·have HD:Box (dirA (AV.ab ⟨sc,hA,au,pa,hQ,qu,hF,fr⟩) = dirS pa.data.toList):=⟨by unfold dirA; rw [if_neg (fun h=>h2 ⟨h.1,by rw [← size_list]; exact congrArg List.length h.2⟩)]; rfl⟩
   have hcs:hA = false ∨ (hA = true∧pa.toList.isEmpty = false):=by
    cases hA
    ·exact .inl rfl
    ·exact .inr ⟨rfl,nonempty_of pa (fun h=>h2 ⟨rfl,h⟩)⟩
   clear h2
   obtain ⟨z,hz,n,hn,hnn,HN⟩:∃ z:Int,Lib.lastIndexByte pa 47 = z∧∃ n:Nat,IntKind.i64.wrap (z+1) = (n:Int)∧n ≤ pa.size∧Box (dirS pa.data.toList = (pa.extract 0 n).data.toList):=by
    rcases dirS_cases pa with ⟨h,h'⟩ | ⟨i,hi,h,h'⟩
    ·refine ⟨-1,h,0,by decide,Nat.zero_le _,⟨by rw [h',extract_list]; rfl⟩⟩
    ·refine ⟨i,h,i+1,?_,hi,⟨by rw [h',extract_list]; simp⟩⟩
     rw [IntKind.wrap_i64]; omega
   rcases hcs with rfl | ⟨rfl,he⟩
   all_goals
    go_enter Tryz.func84,Tryz.ntmps84
    go_wp2_with fail
    refine (Tryz.strings_HasPrefix p ⟨#[47]⟩ _).mono ?_
    rintro e w1 ⟨rfl,rfl⟩
    rw [show (⟨#[47]⟩:ByteArray).data.toList = [47] from rfl,h1'.out]
    go_wp2
    have hsum:¬ 9223372036854775807 < n+p.size:=by omega
    have hsz:(pa.extract 0 n).size = n:=by simp; omega
    go_quiet (first | (go_at_call 136; refine Calls.quiet_of_same (lastb_any pa z hz s2 _)))
    go_wp2
    go_ret
    exact ⟨_,rfl,by rw [HB.out,HD.out,HN.out]; simp,by rw [ByteArray.size_append]; omega,below_dN hb _⟩
 ·have HB:Box (besideA (AV.ab ⟨sc,hA,au,pa,hQ,qu,hF,fr⟩) p.data.toList = p.data.toList):=⟨by unfold besideA; rw [if_pos (of_decide_eq_true h1)]⟩
  have h1':=Box.mk ((one_slash p.data.toList).trans h1)
  clear h1
  go_enter Tryz.func84,Tryz.ntmps84
  go_wp2_with fail
  refine (Tryz.strings_HasPrefix p ⟨#[47]⟩ _).mono ?_
  rintro e w1 ⟨rfl,rfl⟩
  rw [show (⟨#[47]⟩:ByteArray).data.toList = [47] from rfl,h1'.out]
  go_wp2
  go_ret
  exact ⟨_,rfl,HB.out.symm,by omega,hb⟩
abbrev agg8 (sc:ByteArray) (hA:Bool) (au pa:ByteArray) (hQ:Bool) (qu:ByteArray) (hF:Bool) (fr:ByteArray):Value:=.agg #[.string sc,.bool hA,.string au,.string pa,.bool hQ,.string qu,.bool hF,.string fr]
abbrev obj8 (sc:ByteArray) (hA:Bool) (au pa:ByteArray) (hQ:Bool) (qu:ByteArray) (hF:Bool) (fr:ByteArray):Obj:=.cells #[.string sc,.bool hA,.string au,.string pa,.bool hQ,.string qu,.bool hF,.string fr] 36
set_option maxHeartbeats 1000000 in
set_option maxRecDepth 100000 in
theorem ares_scheme (sc0 au0 pa0 qu0 fr0 sc au pa qu fr:ByteArray) (hA0 hQ0 hF0 hA hQ hF:Bool) (w:World) (s2:pa.size ≤ 1000000) (hm:Max w) (h0:¬ sc.size = 0) :
  Calls Tryz.prog 40 #[agg8 sc0 hA0 au0 pa0 hQ0 qu0 hF0 fr0,agg8 sc hA au pa hQ qu hF fr] w fun e w'=>(∃ S:ByteArray,e = .returned (agg8 sc hA au S hQ qu hF fr)∧S.data.toList = dotsS pa.data.toList)∧Below w.heap.size w w':=by
 have he:=nonempty_of sc h0
 have hw0:=hm.1
 have HMx:=Box.mk hm
 clear h0 hm
 go_enter Tryz.func40,Tryz.ntmps40
 go_wp2_with fail
 refine (adots_any pa _ (by omega) (HMx.out.below (below_three w _ _ _) hw0)).mono ?_
 rintro e w1 ⟨S,rfl,hS,hb1⟩
 have hsz1:=hb1.size
 obtain ⟨x0,x1,x2,x3,x4,x5,x6,x7,xf⟩:=blk_of ((hb1.block (w.heap.size+1) (by simp)).trans (heap_three w _ _ _).2.1)
 obtain ⟨y0,y1,y2,y3,y4,y5,y6,y7,yf⟩:=blk_of ((hb1.block (w.heap.size+2) (by simp)).trans (heap_three w _ _ _).2.2)
 have b1:=(below_three w (obj8 sc0 hA0 au0 pa0 hQ0 qu0 hF0 fr0) (obj8 sc hA au pa hQ qu hF fr) avObj).trans (hb1.mono (by show _ ≤ (((w.alloc _).alloc _).alloc _).heap.size; rw [size_three]; omega))
 clear hb1
 go_wp2
 refine bodyPost_ret (v:=agg8 sc hA au S hQ qu hF fr) (by simp [results,Tryz.results40,go_sem,y0,y1,y2,y3,y4,y5,y6,y7]) rfl ⟨⟨S,rfl,hS⟩,?_⟩
 iterate 9 (refine Below.setCell ?_ (by simp <;> omega) _)
 exact b1
set_option maxHeartbeats 1000000 in
set_option maxRecDepth 100000 in
theorem ares_auth (sc0 au0 pa0 qu0 fr0 sc au pa qu fr:ByteArray) (hA0 hQ0 hF0 hQ hF:Bool) (w:World) (s2:pa.size ≤ 1000000) (hm:Max w) (h0:sc.size = 0) :
  Calls Tryz.prog 40 #[agg8 sc0 hA0 au0 pa0 hQ0 qu0 hF0 fr0,agg8 sc true au pa hQ qu hF fr] w fun e w'=>(∃ S:ByteArray,e = .returned (agg8 sc0 true au S hQ qu hF fr)∧S.data.toList = dotsS pa.data.toList)∧Below w.heap.size w w':=by
 have he:=empty_of sc h0
 have hw0:=hm.1
 have HMx:=Box.mk hm
 clear h0 hm
 go_enter Tryz.func40,Tryz.ntmps40
 go_wp2_with fail
 refine (adots_any pa _ (by omega) (HMx.out.below (below_three w _ _ _) hw0)).mono ?_
 rintro e w1 ⟨S,rfl,hS,hb1⟩
 have hsz1:=hb1.size
 obtain ⟨x0,x1,x2,x3,x4,x5,x6,x7,xf⟩:=blk_of ((hb1.block (w.heap.size+1) (by simp)).trans (heap_three w _ _ _).2.1)
 obtain ⟨y0,y1,y2,y3,y4,y5,y6,y7,yf⟩:=blk_of ((hb1.block (w.heap.size+2) (by simp)).trans (heap_three w _ _ _).2.2)
 have b1:=(below_three w (obj8 sc0 hA0 au0 pa0 hQ0 qu0 hF0 fr0) (obj8 sc0 true au pa hQ qu hF fr) avObj).trans (hb1.mono (by show _ ≤ (((w.alloc _).alloc _).alloc _).heap.size; rw [size_three]; omega))
 clear hb1
 go_wp2
 refine bodyPost_ret (v:=agg8 sc0 true au S hQ qu hF fr) (by simp [results,Tryz.results40,go_sem,y0,y1,y2,y3,y4,y5,y6,y7]) rfl ⟨⟨S,rfl,hS⟩,?_⟩
 iterate 9 (refine Below.setCell ?_ (by simp <;> omega) _)
 exact b1
set_option maxHeartbeats 1000000 in
set_option maxRecDepth 100000 in
theorem ares_path (sc0 au0 pa0 qu0 fr0 sc au pa qu fr:ByteArray) (hA0 hQ0 hF0 hQ hF:Bool) (w:World) (s1:pa0.size ≤ 400000) (s2:pa.size ≤ 400000) (hm:Max w) (h0:sc.size = 0) (h1:¬ pa.size = 0) :
  Calls Tryz.prog 40 #[agg8 sc0 hA0 au0 pa0 hQ0 qu0 hF0 fr0,agg8 sc false au pa hQ qu hF fr] w fun e w'=>(∃ S:ByteArray,e = .returned (agg8 sc0 hA0 au0 S hQ qu hF fr)∧S.data.toList = dotsS (besideA (AV.ab ⟨sc0,hA0,au0,pa0,hQ0,qu0,hF0,fr0⟩) pa.data.toList))∧Below w.heap.size w w':=by
 have he:=empty_of sc h0
 have hp:=nonempty_of pa h1
 have hw0:=hm.1
 have HMx:=Box.mk hm
 clear h0 hm h1
 go_enter Tryz.func40,Tryz.ntmps40
 go_wp2
 go_region
 go_wp2_with fail
 refine (beside_any sc0 au0 pa0 qu0 fr0 pa hA0 hQ0 hF0 _ s1 s2).mono ?_
 rintro e w1 ⟨P,rfl,hP,hPs,hb1⟩
 have hsz1:=hb1.size
 have b0:=(below_three w (obj8 sc0 hA0 au0 pa0 hQ0 qu0 hF0 fr0) (obj8 sc0 hA0 au0 pa hQ qu hF fr) avObj).drew.trans (hb1.mono (by show _ ≤ (((w.alloc _).alloc _).alloc _).heap.size; rw [size_three]; omega))
 go_wp2_with fail
 refine (adots_any P _ (by omega) (HMx.out.below b0 hw0)).mono ?_
 rintro e w2 ⟨S,rfl,hS,hb2⟩
 have hsz2:=hb2.size
 rw [hP] at hS
 have hb3:=hb1.trans (hb2.mono hsz1)
 obtain ⟨x0,x1,x2,x3,x4,x5,x6,x7,xf⟩:=blk_of ((hb3.block (w.heap.size+1) (by simp)).trans (heap_three w _ _ _).2.1)
 obtain ⟨y0,y1,y2,y3,y4,y5,y6,y7,yf⟩:=blk_of ((hb3.block (w.heap.size+2) (by simp)).trans (heap_three w _ _ _).2.2)
 have b1:=b0.trans (hb2.mono (Nat.le_trans b0.size (Nat.le_refl _)))
 clear hb1 hb2 hb3 b0
 go_wp2
 refine bodyPost_ret (v:=agg8 sc0 hA0 au0 S hQ qu hF fr) (by simp [results,Tryz.results40,go_sem,y0,y1,y2,y3,y4,y5,y6,y7]) rfl ⟨⟨S,rfl,hS⟩,?_⟩
 iterate 9 (refine Below.setCell ?_ (by simp <;> omega) _)
 exact b1
set_option maxHeartbeats 1000000 in
set_option maxRecDepth 100000 in
theorem ares_query (sc0 au0 pa0 qu0 fr0 sc au pa qu fr:ByteArray) (hA0 hQ0 hF0 hF:Bool) (w:World) (h0:sc.size = 0) (h1:pa.size = 0) :
  Calls Tryz.prog 40 #[agg8 sc0 hA0 au0 pa0 hQ0 qu0 hF0 fr0,agg8 sc false au pa true qu hF fr] w fun e w'=>e = .returned (agg8 sc0 hA0 au0 pa0 true qu hF fr)∧Below w.heap.size w w':=by
 have he:=empty_of sc h0
 have hp:=empty_of pa h1
 clear h0 h1
 go_enter Tryz.func40,Tryz.ntmps40
 go_wp2
 go_region
 go_wp2
 exact bodyPost_ret (v:=agg8 sc0 hA0 au0 pa0 true qu hF fr) (by simp [results,Tryz.results40,go_sem]) rfl ⟨rfl,(below_three w _ _ _).drew⟩
set_option maxHeartbeats 1000000 in
set_option maxRecDepth 100000 in
theorem ares_same (sc0 au0 pa0 qu0 fr0 sc au pa qu fr:ByteArray) (hA0 hQ0 hF0 hF:Bool) (w:World) (h0:sc.size = 0) (h1:pa.size = 0) :
  Calls Tryz.prog 40 #[agg8 sc0 hA0 au0 pa0 hQ0 qu0 hF0 fr0,agg8 sc false au pa false qu hF fr] w fun e w'=>e = .returned (agg8 sc0 hA0 au0 pa0 hQ0 qu0 hF fr)∧Below w.heap.size w w':=by
 have he:=empty_of sc h0
 have hp:=empty_of pa h1
 clear h0 h1
 go_enter Tryz.func40,Tryz.ntmps40
 go_wp2
 go_region
 go_wp2
 go_region
 go_wp2
 exact bodyPost_ret (v:=agg8 sc0 hA0 au0 pa0 hQ0 qu0 hF fr) (by simp [results,Tryz.results40,go_sem]) rfl ⟨rfl,(below_three w _ _ _).drew.drew⟩
end Go.Proofs.YtknhacbfddggpaaGreatDoor
