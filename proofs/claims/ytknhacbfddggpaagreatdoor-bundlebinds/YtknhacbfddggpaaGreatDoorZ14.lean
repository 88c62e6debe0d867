import Derived.Test.YtknhacbfddggpaaGreatDoorZ13
import Derived.Test.YtknhacbfddggpaaGreatDoorZ1
import Derived.Test.YtknhacbfddggpaaGreatDoorZ2
namespace Go.Proofs.YtknhacbfddggpaaGreatDoor
open Go.RowKit
theorem begin_no (b n d:Nat) (w:World) (h:CI w b n) (hn:n ≤ 1000000) (hd:d ≤ 1000000) (hx:40 ≤ n ∨ 4 ≤ d) :
  Calls Tryz.prog 70 #[.pointer (some ⟨b,0,none⟩),.int .i64 d] w fun e w'=>e = .returned (.iface 30 (.int .i64 4))∧w' = w:=by
 obtain ⟨c,f,lt⟩:=h
 by_cases h1:40 ≤ n
 ·clear hx
  go_enter Tryz.func70,Tryz.ntmps70
  go_wp2
  go_ret
  exact ⟨rfl,rfl⟩
 ·have h2:4 ≤ d:=by omega
  clear hx
  go_enter Tryz.func70,Tryz.ntmps70
  go_wp2
  go_ret
  exact ⟨rfl,rfl⟩
theorem begin_yes (b n d:Nat) (w:World) (h:CI w b n) (h1:¬ 40 ≤ n) (h2:¬ 4 ≤ d) :
  Calls Tryz.prog 70 #[.pointer (some ⟨b,0,none⟩),.int .i64 d] w fun e w'=>e = .returned .nilIface∧CI w' b (n+1)∧w.grownBy w' (some b):=by
 have HC:Box (CI (w.setCell ⟨b,0,none⟩ (.int .i64 ((n:Int)+1))) b (n+1)):=⟨h.set (n+1)⟩
 obtain ⟨c,f,lt⟩:=h
 go_enter Tryz.func70,Tryz.ntmps70
 go_wp2
 go_ret
 exact ⟨rfl,HC.out,gr_set _ _ _ _⟩
theorem splitC_len (l x:List UInt8) (h:x ∈ splitC l):x.length ≤ l.length:=by
 obtain ⟨u,v,rfl⟩:=splitC_in l x h
 simp; omega
theorem split_any (s:ByteArray) (w:World) (hs:s.size ≤ 100000) (hm:Max w) :
  Calls Tryz.prog 133 #[.string s,.string ⟨#[13,10]⟩] w fun e w'=>∃ (n:Nat) (L:List ByteArray),e = .returned (.slice (some ⟨w.heap.size,0,none⟩) n n)∧L.length = n∧n ≤ 100001∧(∀ k (hk:k < L.length),w'.cell? ⟨w.heap.size,k,none⟩ = some (.string L[k]))∧(∀ x ∈ L,x.size ≤ s.size)∧L.map lst = splitC s.data.toList∧w.heap.size < w'.heap.size∧Below w.heap.size w w':=by
 obtain ⟨_,m,hm⟩:=hm
 refine (Tryz.strings_Split s ⟨#[13,10]⟩ m w (by omega) hm (by decide)).mono ?_
 rintro e w' ⟨rfl,rfl⟩
 have hlen:=Lib.splitB_all ⟨#[13,10]⟩ (by decide) 0 _ s rfl
 have hcnt:=Lib.countB_le ⟨#[13,10]⟩ (by decide) _ s (Nat.le_refl _)
 refine ⟨_,Lib.splitB ⟨#[13,10]⟩ 0 (Lib.countB s ⟨#[13,10]⟩) s,rfl,hlen,by omega,?_,?_,split_lines _ s (Nat.lt_succ_self _),by simp,(Below.refl _ _).alloc (Nat.le_refl _) _⟩
 ·intro k hk
  simp
 ·intro x hx
  have hx':lst x ∈ splitC s.data.toList:=by rw [← split_lines _ s (Nat.lt_succ_self _)]; exact List.mem_map_of_mem hx
  have:=splitC_len _ _ hx'
  unfold lst at this
  rw [size_list,size_list] at this
  exact this
def MPost (o:Option Bool) (e:Ending):Prop:=∃ q1 q2:Bool,e = .returned (.tuple #[.bool q1,.bool q2])∧((o = none∧q1 = false∧q2 = false) ∨ (o = some false∧q1 = true∧q2 = false) ∨ (o = some true∧q1 = false∧q2 = true))
theorem lead_list (b:ByteArray):((⟨#[45,45]⟩:ByteArray)++b).data.toList = lead b.data.toList:=by simp [lead]
theorem trimPrefix_at (x p:List UInt8) (h:Lib.hasPrefix x p = true):Lib.trimPrefix x p = x.drop p.length:=by
 unfold Lib.trimPrefix
 rw [h]; simp
set_option maxHeartbeats 1000000 in
theorem marks_any (x b:ByteArray) (w:World) (hx:x.size ≤ 100000) (hb:b.size ≤ 100000) :
  Calls Tryz.prog 165 #[.string x,.string b] w fun e w'=>MPost (markOf b.data.toList x.data.toList) e∧Below w.heap.size w w':=by
 have hsum:¬ 9223372036854775807 < 2+b.size:=by omega
 cases hp:Lib.hasPrefix x.data.toList (lead b.data.toList)
 ·have HM:Box (markOf b.data.toList x.data.toList = none):=⟨by unfold markOf; rw [if_neg (by rw [show (lead b.data.toList).isPrefixOf x.data.toList = Lib.hasPrefix x.data.toList (lead b.data.toList) from rfl,hp]; decide)]⟩
  rw [HM.out]
  have hp':=Box.mk hp
  clear hp
  go_enter Tryz.func165,Tryz.ntmps165
  go_wp2_with fail
  refine (Tryz.strings_CutPrefix x _ _).mono ?_
  rintro e w1 ⟨rfl,rfl⟩
  rw [lead_list,hp'.out]
  go_wp2
  go_ret2
  exact ⟨⟨false,false,rfl,.inl ⟨rfl,rfl,rfl⟩⟩,Below.refl _ _⟩
 ·have HM:Box (markOf b.data.toList x.data.toList = if trimS (x.data.toList.drop (lead b.data.toList).length) = [] then some false else if trimS (x.data.toList.drop (lead b.data.toList).length) = [45,45] then some true else none):=⟨by unfold markOf; rw [if_pos (by rw [show (lead b.data.toList).isPrefixOf x.data.toList = Lib.hasPrefix x.data.toList (lead b.data.toList) from rfl,hp])]⟩
  obtain ⟨r,HR⟩:∃ r:ByteArray,Box (r.data.toList = x.data.toList.drop (lead b.data.toList).length):=⟨⟨(x.data.toList.drop (lead b.data.toList).length).toArray⟩,⟨rfl⟩⟩
  have hr:r.size ≤ 100000:=by rw [← size_list,HR.out,List.length_drop,size_list]; omega
  have hE:(ByteArray.mk (Lib.trimPrefix x.data.toList (lead b.data.toList)).toArray) = r:=by
   rw [trimPrefix_at _ _ hp,← HR.out]
  have hp':=Box.mk hp
  have HE:=Box.mk hE
  clear hp hE
  obtain ⟨R,HQ⟩:∃ R,Box (R = markOf b.data.toList x.data.toList):=⟨_,⟨rfl⟩⟩
  rw [← HQ.out]
  go_enter Tryz.func165,Tryz.ntmps165
  go_wp2_with fail
  refine (Tryz.strings_CutPrefix x _ _).mono ?_
  rintro e w1 ⟨rfl,rfl⟩
  rw [lead_list,hp'.out,HE.out]
  go_wp2_with fail
  refine (hTrim_any r _ (by omega)).mono ?_
  rintro e w2 ⟨t,rfl,ht,hb2⟩
  rw [HM.out,← HR.out,← ht] at HQ
  clear ht HM HR HE hp'
  go_wp2
  go_ret2
  refine ⟨⟨_,_,rfl,?_⟩,hb2⟩
  rw [HQ.out,ByteArray.toList_eq]
  by_cases e1:t.data.toList = []
  ·rw [if_pos e1,e1]
   exact .inr (.inl ⟨rfl,rfl,rfl⟩)
  ·rw [if_neg e1]
   have e3:t.data.toList.isEmpty = false:=by rw [← Bool.not_eq_true,List.isEmpty_iff]; exact e1
   by_cases e2:t.data.toList = [45,45]
   ·rw [if_pos e2,e2]
    exact .inr (.inr ⟨rfl,rfl,rfl⟩)
   ·rw [if_neg e2]
    refine .inl ⟨rfl,e3,?_⟩
    rw [beq_eq_false_iff_ne]; exact e2
end Go.Proofs.YtknhacbfddggpaaGreatDoor
namespace Go.Proofs.YtknhacbfddggpaaGreatDoor
open Go.RowKit
def wt (ls:List (List UInt8)):Nat:=(ls.map fun x=>x.length+2).sum
theorem wt_append (a b:List (List UInt8)):wt (a++b) = wt a+wt b:=by simp [wt]
theorem wt_cons (a:List UInt8) (b:List (List UInt8)):wt (a :: b) = a.length+2+wt b:=by simp [wt]
theorem join_wt:∀ xs:List (List UInt8),xs ≠ [] → (joinC xs).length+2 = wt xs
 | [],h=>absurd rfl h
 | [x],_=>by simp [joinC,wt]
 | x :: y :: r,_=>by
  rw [joinC,wt_cons,List.length_append,List.length_cons,List.length_cons]
  have:=join_wt (y :: r) (by simp)
  omega
theorem bet_wt (b:List UInt8):∀ (ls:List (List UInt8)) (begun:Bool) (cur xs:List (List UInt8)),betS b ls begun cur = some xs → ∀ x ∈ xs,x.length+2 ≤ wt cur+wt ls
 | [],_,_,_,h=>by cases h
 | y :: r,begun,cur,xs,h=>by
  unfold betS at h
  rw [wt_cons]
  have hj:(joinC cur).length+2 ≤ wt cur+2:=by
   by_cases hc:cur = []
   ·subst hc; simp [joinC]
   ·have:=join_wt cur hc; omega
  cases hm:markOf b y with
  | none =>
   rw [hm] at h
   intro x hx
   have:=bet_wt b r begun _ xs h x hx
   rw [wt_append,wt_cons] at this
   simp [wt] at this ⊢
   omega
  | some q =>
   rw [hm] at h
   cases q with
   | true =>
    simp only [Option.some.injEq] at h
    subst h
    intro x hx
    cases begun with
    | false=>simp at hx
    | true =>
     have:x = joinC cur:=by simpa using hx
     subst this
     omega
   | false =>
    simp only [Option.map_eq_some_iff] at h
    obtain ⟨o,ho,rfl⟩:=h
    intro x hx
    have ih:=bet_wt b r true [] o ho
    cases begun with
    | false =>
     have:=ih x (by simpa using hx)
     simp [wt] at this ⊢
     omega
    | true =>
     rcases List.mem_cons.1 (by simpa using hx:x ∈ joinC cur :: o) with rfl | hx
     ·omega
     ·have:=ih x hx
      simp [wt] at this ⊢
      omega
theorem between_len (b s:List UInt8) (xs:List (List UInt8)) (h:betweenS b s = some xs):∀ x ∈ xs,x.length ≤ s.length:=by
 intro x hx
 have h1:=bet_wt b _ _ _ _ h x hx
 have h2:=join_wt (splitC s) (splitC_ne s)
 rw [joinC_split] at h2
 simp [wt] at h1 h2
 omega
def CutI (b:List UInt8) (LL:List (List UInt8)) (T:Option (List (List UInt8))) (k:Nat) (z:Int) (out:List (List UInt8)):Prop:=
 (z = -1∧T = (betS b (LL.drop k) false []).map (out++·)) ∨ (∃ f:Nat,z = f∧f ≤ k∧T = (betS b (LL.drop k) true ((LL.take k).drop f)).map (out++·))
theorem drop_at {α:Type} (L:List α) (k:Nat) (x:α) (h:L[k]? = some x):L.drop k = x :: L.drop (k+1):=by
 obtain ⟨hk,e⟩:=List.getElem?_eq_some_iff.1 h
 rw [← e]; exact (List.getElem_cons_drop (h:=hk)).symm
theorem take_drop_snoc {α:Type} (L:List α) (k f:Nat) (x:α) (h:L[k]? = some x) (hf:f ≤ k):(L.take (k+1)).drop f = (L.take k).drop f++[x]:=by
 have hk:=(List.getElem?_eq_some_iff.1 h).1
 rw [take_snocF L k x h,List.drop_append_of_le_length (by rw [List.length_take]; omega)]
theorem cut_none {b:List UInt8} {LL:List (List UInt8)} {T:Option (List (List UInt8))} {k:Nat} {z:Int} {out:List (List UInt8)} (h:CutI b LL T k z out) (x:List UInt8) (hx:LL[k]? = some x) (hm:markOf b x = none):CutI b LL T (k+1) z out:=by
 rcases h with ⟨hz,h⟩ | ⟨f,hz,hf,h⟩
 ·refine .inl ⟨hz,?_⟩
  rw [h,drop_at LL k x hx,betS,hm]
  exact congrArg _ (bet_false b _ _ _)
 ·refine .inr ⟨f,hz,by omega,?_⟩
  rw [h,drop_at LL k x hx,betS,hm,take_drop_snoc LL k f x hx hf]
theorem cut_begin0 {b:List UInt8} {LL:List (List UInt8)} {T:Option (List (List UInt8))} {k:Nat} {z:Int} {out:List (List UInt8)} (h:CutI b LL T k z out) (hz:z < 0) (x:List UInt8) (hx:LL[k]? = some x) (hm:markOf b x = some false):CutI b LL T (k+1) ((k:Int)+1) out:=by
 rcases h with ⟨_,h⟩ | ⟨f,hz',_⟩
 ·refine .inr ⟨k+1,by omega,Nat.le_refl _,?_⟩
  rw [h,drop_at LL k x hx,betS,hm,show (LL.take (k+1)).drop (k+1) = [] from List.drop_of_length_le (by rw [List.length_take]; omega)]
  simp
 ·omega
theorem cut_begin1 {b:List UInt8} {LL:List (List UInt8)} {T:Option (List (List UInt8))} {k f:Nat} {out:List (List UInt8)} (h:CutI b LL T k f out) (x:List UInt8) (hx:LL[k]? = some x) (hm:markOf b x = some false):CutI b LL T (k+1) ((k:Int)+1) (out++[joinC ((LL.take k).drop f)]):=by
 rcases h with ⟨h',_⟩ | ⟨f',hz,_,h⟩
 ·omega
 ·have:f' = f:=by omega
  subst this
  refine .inr ⟨k+1,by omega,Nat.le_refl _,?_⟩
  rw [h,drop_at LL k x hx,betS,hm,show (LL.take (k+1)).drop (k+1) = [] from List.drop_of_length_le (by rw [List.length_take]; omega),Option.map_map]
  congr 1
  funext o
  simp
theorem cut_end0 {b:List UInt8} {LL:List (List UInt8)} {T:Option (List (List UInt8))} {k:Nat} {z:Int} {out:List (List UInt8)} (h:CutI b LL T k z out) (hz:z < 0) (x:List UInt8) (hx:LL[k]? = some x) (hm:markOf b x = some true):T = some out:=by
 rcases h with ⟨_,h⟩ | ⟨f,hz',_⟩
 ·rw [h,drop_at LL k x hx,betS,hm]; simp
 ·omega
theorem cut_end1 {b:List UInt8} {LL:List (List UInt8)} {T:Option (List (List UInt8))} {k f:Nat} {out:List (List UInt8)} (h:CutI b LL T k f out) (x:List UInt8) (hx:LL[k]? = some x) (hm:markOf b x = some true):T = some (out++[joinC ((LL.take k).drop f)]):=by
 rcases h with ⟨h',_⟩ | ⟨f',hz,_,h⟩
 ·omega
 ·have:f' = f:=by omega
  subst this
  rw [h,drop_at LL k x hx,betS,hm]; simp
theorem cut_out {b:List UInt8} {LL:List (List UInt8)} {T:Option (List (List UInt8))} {k:Nat} {z:Int} {out:List (List UInt8)} (h:CutI b LL T k z out) (hk:LL.length ≤ k):T = none:=by
 rcases h with ⟨_,h⟩ | ⟨f,_,_,h⟩ <;> rw [h,List.drop_of_length_le hk] <;> rfl
theorem join_len (M:Nat):∀ xs:List (List UInt8),(∀ x ∈ xs,x.length ≤ M) → (joinC xs).length ≤ xs.length * (M+2):=by
 intro xs h
 by_cases hc:xs = []
 ·subst hc; simp [joinC]
 ·have h1:=join_wt xs hc
  have h2:wt xs ≤ xs.length * (M+2):=by
   clear h1 hc
   induction xs with
   | nil=>simp [wt]
   | cons a xs ih =>
    rw [wt_cons,List.length_cons,Nat.succ_mul]
    have:=h a (by simp)
    have:=ih fun x hx=>h x (by simp [hx])
    omega
  omega
theorem OwnS.mono {w:World} {B C:Nat} {v:Value} {l:List ByteArray} (h:OwnS w C v l) (hB:B ≤ C):OwnS w B v l:=by
 obtain ⟨h1,h2⟩:=h
 refine ⟨h1,?_⟩
 rcases h2 with h2 | ⟨g,cap,cur,a,b,c⟩
 ·exact .inl h2
 ·exact .inr ⟨g,cap,cur,a,Nat.le_trans hB b,c⟩
theorem join_crlf (A:Option Addr) (g f m c:Nat) (ss:List ByteArray) (w:World) (hA:f < m → A = some ⟨g,f,none⟩∧m - f ≤ c) (hc:∀ k (hk:k < ss.length),w.cell? ⟨g,k,none⟩ = some (.string ss[k])) (hg:g < w.heap.size) (h1:f ≤ m) (h2:m ≤ ss.length) (hl:∀ x ∈ ss,x.size ≤ 100000) (hn:ss.length ≤ 100001) :
  Calls Tryz.prog 135 #[.slice A (m - f) c,.string ⟨#[13,10]⟩] w fun e w'=>∃ t:ByteArray,e = .returned (.string t)∧t.data.toList = joinC (((ss.map lst).take m).drop f)∧Below w.heap.size w w':=by
 by_cases hlt:f < m
 ·obtain ⟨rfl,hcap⟩:=hA hlt
  have hlen:((ss.take m).drop f).length = m - f:=by rw [List.length_drop,List.length_take]; omega
  have hmap:(((ss.take m).drop f).map (·.data.toList)) = ((ss.map lst).take m).drop f:=by
   rw [← List.map_take,← List.map_drop]; rfl
  have hj:=Tryz.strings_Join g f c ((ss.take m).drop f) ⟨#[13,10]⟩ w ?_ hg (by omega) (by omega) ?_
  ·rw [hlen,hmap] at hj
   refine hj.mono ?_
   rintro e w' ⟨rfl,hb⟩
   exact ⟨_,rfl,(joinC_lib _).symm,hb⟩
  ·intro j x hj
   rw [List.getElem?_drop,List.getElem?_take] at hj
   split at hj
   ·obtain ⟨hk,e⟩:=List.getElem?_eq_some_iff.1 hj
    rw [hc _ hk,e]
   ·cases hj
  ·have:=join_len 100000 (((ss.map lst).take m).drop f) (by
    intro x hx
    obtain ⟨y,hy,rfl⟩:=List.mem_map.1 (List.mem_of_mem_take (List.mem_of_mem_drop hx))
    have:=hl y hy
    rw [lst,size_list]; exact this)
   rw [List.length_drop,List.length_take,List.length_map] at this
   rw [hmap,← show joinC (((ss.map lst).take m).drop f) = Lib.join (((ss.map lst).take m).drop f) [13,10] from joinC_lib _]
   have h3:(min m ss.length - f) * (100000+2) ≤ 100001 * 100002:=Nat.mul_le_mul (by omega) (by omega)
   omega
 ·have e0:m - f = 0:=by omega
  rw [e0]
  refine (Tryz.strings_Join_none A c ⟨#[13,10]⟩ w).mono ?_
  rintro e w' ⟨rfl,rfl⟩
  refine ⟨_,rfl,?_,Below.refl _ _⟩
  rw [List.drop_of_length_le (by rw [List.length_take]; omega)]
  rfl
def CPost (T:Option (List (List UInt8))) (B:Nat) (e:Ending) (w':World):Prop:=
 match T with
 | none=>e = .returned (.tuple #[.slice none 0 0,.bool false])
 | some xs=>∃ v ss,e = .returned (.tuple #[v,.bool true])∧OwnS w' B v ss∧ss.map lst = xs∧ss.length ≤ 100001
end Go.Proofs.YtknhacbfddggpaaGreatDoor
namespace Go.Proofs.YtknhacbfddggpaaGreatDoor
open Go.RowKit
set_option maxHeartbeats 1000000 in
set_option maxRecDepth 100000 in
theorem pcut_any (s b:ByteArray) (w:World) (hs:s.size ≤ 100000) (hbs:b.size ≤ 100000) (hm:Max w) :
  Calls Tryz.prog 118 #[.string s,.string b] w fun e w'=>CPost (betweenS b.data.toList s.data.toList) w.heap.size e w'∧Below w.heap.size w w':=by
 obtain ⟨T,HT⟩:∃ T,Box (T = betweenS b.data.toList s.data.toList):=⟨_,⟨rfl⟩⟩
 rw [← HT.out]
 have HMx:=Box.mk hm
 clear hm
 go_enter Tryz.func118,Tryz.ntmps118
 go_wp2_with fail
 refine (split_any s _ hs HMx.out).mono ?_
 rintro e w1 ⟨n,L,rfl,hL,hn,hc,hx,hsp,hlt1,hb1⟩
 have HC:=Box.mk hc
 have HX:=Box.mk hx
 have HN:=Box.mk hL
 have hLn:L.length ≤ n:=Nat.le_of_eq hL
 have hLn':n ≤ L.length:=Nat.le_of_eq hL.symm
 have H0:Box (CutI b.data.toList (L.map lst) T 0 (-1) []):=⟨.inl ⟨rfl,by rw [HT.out,betweenS,← hsp]; simp⟩⟩
 clear hc hx hL hsp HT HMx
 go_wp2
 go_loopw [7,8,17] (fun v p i wr=>∃ (k:Nat) (z:Int) (ss:List ByteArray),k ≤ n∧i = .int .i64 k∧p = .int .i64 z∧-1 ≤ z∧z ≤ k∧ss.length ≤ k∧OwnS wr w1.heap.size v ss∧Below w1.heap.size w1 wr∧Box (CutI b.data.toList (L.map lst) T k z (ss.map lst))) (fun _ _ i _=>n - (intOf i).toNat)
 case atStart=>exact ⟨0,-1,[],Nat.zero_le _,rfl,rfl,by omega,by omega,Nat.le_refl _,OwnS.nil _ _,Below.refl _ _,H0⟩
 case round =>
  obtain ⟨k,z,ss,hk,rfl,rfl,hz1,hz2,hss,hown,hb,HI⟩:=hrel
  have hsz:=hb.size
  by_cases hlt:k < n
  ·have hkL:k < L.length:=by omega
   obtain ⟨x,HXk⟩:∃ x,Box (L[k]? = some x):=⟨_,⟨List.getElem?_eq_getElem hkL⟩⟩
   have hcell:wr.cell? ⟨w.heap.size,k,none⟩ = some (.string x):=by
    rw [hb.cell (p:=⟨w.heap.size,k,none⟩) hlt1,HC.out k hkL]
    have:=HXk.out
    rw [List.getElem?_eq_getElem hkL] at this
    rw [Option.some.inj this]
   have HXl:Box ((L.map lst)[k]? = some x.data.toList):=⟨by rw [List.getElem?_map,HXk.out]; rfl⟩
   have hxs:x.size ≤ 100000:=by
    have:=HX.out x (List.mem_of_getElem? HXk.out)
    omega
   clear HXk hkL
   go_wp2_with fail
   refine (marks_any x b _ hxs hbs).mono ?_
   rintro e w2 ⟨⟨q1,q2,rfl,hq⟩,hb2⟩
   have hsz2:=hb2.size
   have hb12:=hb.trans (hb2.mono hsz)
   rcases hq with ⟨hm,rfl,rfl⟩ | ⟨hm,rfl,rfl⟩ | ⟨hm,rfl,rfl⟩
   ·have HI':=Box.mk (cut_none HI.out _ HXl.out hm)
    clear HI HXl hm
    go_wp2
    go_roundw
    case rel=>exact ⟨k+1,z,ss,by omega,by go_num,rfl,hz1,by omega,by omega,hown.below hb2 (Nat.le_refl _),hb12,HI'⟩
    case measure=>simp [intOf]; omega
   ·by_cases hz:z < 0
    ·have HI':=Box.mk (cut_begin0 HI.out hz _ HXl.out hm)
     clear HI HXl hm
     go_wp2
     go_roundw
     case rel=>exact ⟨k+1,(k:Int)+1,ss,by omega,by go_num,by go_num,by omega,by omega,by omega,hown.below hb2 (Nat.le_refl _),hb12,HI'⟩
     case measure=>simp [intOf]; omega
    ·obtain ⟨f,rfl⟩:∃ f:Nat,z = (f:Int):=⟨z.toNat,by omega⟩
     have HI':=Box.mk (cut_begin1 HI.out _ HXl.out hm)
     clear HI HXl hm
     go_wp2_with fail
     refine (join_crlf _ w.heap.size f k (n - f) L _ (fun _=>⟨rfl,by omega⟩) (fun j hj=>by rw [hb12.cell (p:=⟨w.heap.size,j,none⟩) hlt1]; exact HC.out j hj) (by omega) (by omega) (by omega) (fun y hy=>Nat.le_trans (HX.out y hy) hs) (by omega)).mono ?_
     rintro e w3 ⟨t,rfl,ht,hb3⟩
     have hb13:=hb12.trans (hb3.mono (by omega))
     have hown3:=(hown.below hb2 (Nat.le_refl _)).below hb3 (Nat.le_refl _)
     have hsz3:=hb13.size
     have HJ:Box ((ss++[t]).map lst = ss.map lst++[joinC (((L.map lst).take k).drop f)]):=⟨by rw [List.map_append,← ht]; rfl⟩
     rw [← HJ.out] at HI'
     clear ht HJ HC HX
     go_wp2_with (at_builtin; refine wp_appT _ w1 rfl (.tmp 36) (.tmp 42) rfl w1.heap.size _ _ rfl hown3 t rfl (by omega) hsz3 hb13 ?_; intro v' w4 hown4 hb4)
     go_roundw
     case rel=>exact ⟨k+1,(k:Int)+1,ss++[t],by omega,by go_num,by go_num,by omega,by omega,by simp; omega,hown4,hb4,HI'⟩
     case measure=>simp [intOf]; omega
   ·by_cases hz:z < 0
    ·have HI':=Box.mk (cut_end0 HI.out hz _ HXl.out hm)
     clear HI HXl hm HC HX
     go_wp2
     go_ret2
     refine ⟨?_,hb1.trans (hb12.mono hb1.size)⟩
     rw [HI'.out]
     exact ⟨_,ss,rfl,(hown.below hb2 (Nat.le_refl _)).mono hb1.size,rfl,by omega⟩
    ·obtain ⟨f,rfl⟩:∃ f:Nat,z = (f:Int):=⟨z.toNat,by omega⟩
     have HI':=Box.mk (cut_end1 HI.out _ HXl.out hm)
     clear HI HXl hm
     go_wp2_with fail
     refine (join_crlf _ w.heap.size f k (n - f) L _ (fun _=>⟨rfl,by omega⟩) (fun j hj=>by rw [hb12.cell (p:=⟨w.heap.size,j,none⟩) hlt1]; exact HC.out j hj) (by omega) (by omega) (by omega) (fun y hy=>Nat.le_trans (HX.out y hy) hs) (by omega)).mono ?_
     rintro e w3 ⟨t,rfl,ht,hb3⟩
     have hb13:=hb12.trans (hb3.mono (by omega))
     have hown3:=(hown.below hb2 (Nat.le_refl _)).below hb3 (Nat.le_refl _)
     have hsz3:=hb13.size
     have HJ:Box ((ss++[t]).map lst = ss.map lst++[joinC (((L.map lst).take k).drop f)]):=⟨by rw [List.map_append,← ht]; rfl⟩
     rw [← HJ.out] at HI'
     clear ht HJ HC HX
     go_wp2_with (at_builtin; refine wp_appT _ w1 rfl (.tmp 36) (.tmp 42) rfl w1.heap.size _ _ rfl hown3 t rfl (by omega) hsz3 hb13 ?_; intro v' w4 hown4 hb4)
     go_ret2
     refine ⟨?_,hb1.trans (hb4.mono hb1.size)⟩
     rw [HI'.out]
     exact ⟨_,_,rfl,hown4.mono hb1.size,rfl,by simp; omega⟩
  ·have HE:=Box.mk (cut_out HI.out (by rw [List.length_map]; omega))
   clear HI HC HX
   go_wp2
   go_ret2
   refine ⟨?_,hb1.trans (hb.mono hb1.size)⟩
   rw [HE.out]; rfl
end Go.Proofs.YtknhacbfddggpaaGreatDoor
