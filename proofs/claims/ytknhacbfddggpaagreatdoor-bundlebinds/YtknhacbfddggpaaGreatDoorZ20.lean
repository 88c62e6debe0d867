import Derived.Test.YtknhacbfddggpaaGreatDoorZ8
import Derived.Lib.Split
import Derived.Lib.Join
import Derived.Lib.LastIndexByte
import Derived.Test.YtknhacbfddggpaaGreatDoorZ4
import Derived.Test.YtknhacbfddggpaaGreatDoorZ1
import Derived.Test.YtknhacbfddggpaaGreatDoorZ6
import Derived.Test.YtknhacbfddggpaaGreatDoorZ2
namespace Go.Proofs.YtknhacbfddggpaaGreatDoor
open Go.RowKit
theorem one_index (l:List UInt8) (c:UInt8):Lib.index l [c] = Lib.indexByte l c:=by
 induction l with
 | nil=>rfl
 | cons b l ih =>
  have e:(List.isPrefixOf [c] (b :: l)) = (c == b):=by simp [List.isPrefixOf]
  rw [Lib.index,Lib.indexByte,ih,e]
  have:(c == b) = (b == c):=by rw [Bool.eq_iff_iff,beq_iff_eq,beq_iff_eq]; exact eq_comm
  rw [this]
theorem find_byte (l:List UInt8) (c:UInt8):(Lib.indexByte l c = -1∧∀ d ∈ l,d ≠ c) ∨ ∃ x y,l = x++c :: y∧(∀ d ∈ x,d ≠ c)∧Lib.indexByte l c = (x.length:Int):=by
 induction l with
 | nil=>exact .inl ⟨rfl,fun d hd=>absurd hd (by simp)⟩
 | cons b l ih =>
  by_cases hb:b = c
  ·subst hb
   exact .inr ⟨[],l,rfl,fun d hd=>absurd hd (by simp),by simp [Lib.indexByte]⟩
  ·have h1:(b == c) = false:=by simpa using hb
   rw [Lib.indexByte,h1]
   rcases ih with ⟨i1,i2⟩ | ⟨x,y,i1,i2,i3⟩
   ·refine .inl ⟨by rw [i1]; rfl,fun d hd=>?_⟩
    rcases List.mem_cons.1 hd with rfl | hd
    ·exact hb
    ·exact i2 d hd
   ·refine .inr ⟨b :: x,y,by rw [i1]; rfl,fun d hd=>?_,?_⟩
    ·rcases List.mem_cons.1 hd with rfl | hd
     ·exact hb
     ·exact i2 d hd
    ·rw [i3]
     have:((x.length:Int) == -1) = false:=by rw [beq_eq_false_iff_ne]; omega
     rw [this,List.length_cons]
     simp
theorem splitP_none (l:List UInt8) (h:∀ d ∈ l,d ≠ 47):splitP l = [l]:=split_noslash l fun hm=>h 47 hm rfl
theorem split_bytes:∀ (n:Nat) (s:ByteArray),s.size < n → (Lib.splitB ⟨#[47]⟩ 0 (Lib.countB s ⟨#[47]⟩) s).map (·.data.toList) = splitP s.data.toList
 | 0,s,h=>absurd h (Nat.not_lt_zero _)
 | n+1,s,h=>by
  have hix:Lib.indexB s ⟨#[47]⟩ = Lib.indexByte s.data.toList 47:=one_index s.data.toList 47
  rcases find_byte s.data.toList 47 with ⟨h1,h2⟩ | ⟨x,y,h1,h2,h3⟩
  ·rw [Lib.splitB_miss _ _ _ _ (hix.trans h1),splitP_none _ h2]; rfl
  ·have hi:=hix.trans h3
   have hsz:s.size = x.length+(y.length+1):=by rw [← size_list,h1]; simp
   have hy:(s.extract (x.length+1) s.size).data.toList = y:=by
    rw [extract_list,h1,List.take_of_length_le (by rw [List.length_drop]; simp; omega)]
    have:x++47 :: y = (x++[47])++y:=by simp
    rw [this]
    exact List.drop_left' (by simp)
   have hx:(s.extract 0 (x.length+0)).data.toList = x:=by
    rw [extract_list,h1]
    simp
   have ih:=split_bytes n (s.extract (x.length+1) s.size) (by rw [← size_list,hy]; omega)
   rw [hy] at ih
   have hc:Lib.countB s ⟨#[47]⟩ = Lib.countB (s.extract (x.length+1) s.size) ⟨#[47]⟩+1:=by
    have:=Lib.countB_hit s ⟨#[47]⟩ x.length (by decide) hi
    rw [this,Nat.add_comm]; rfl
   rw [hc,Lib.splitB_hit _ _ _ _ x.length hi,List.map_cons,hx]
   have e:(s.extract (x.length+(⟨#[47]⟩:ByteArray).size) s.size) = s.extract (x.length+1) s.size:=rfl
   rw [e,ih,h1,split_at x y (fun hm=>h2 47 hm rfl)]
theorem split_slash (s:ByteArray):(Lib.splitB ⟨#[47]⟩ 0 (Lib.countB s ⟨#[47]⟩) s).map (·.data.toList) = splitP s.data.toList:=split_bytes _ s (Nat.lt_succ_self _)
theorem join_slash:∀ l:List (List UInt8),Lib.join l [47] = joinP l
 | []=>rfl
 | [x]=>Lib.join_one x [47]
 | x :: y :: r=>by
  have ih:=join_slash (y :: r)
  rw [Lib.join_cons] at ih
  rw [Lib.join_cons,joinP_cons x (y :: r) (by simp),← ih]
  simp [Lib.joinTail]
theorem letC_is (c:UInt8):letC c = ((decide (65 ≤ c.toNat) && decide (c.toNat ≤ 90)) || (decide (97 ≤ c.toNat) && decide (c.toNat ≤ 122))):=by
 have key:∀ n:Fin 256,letC (UInt8.ofNat n.val) = ((decide (65 ≤ (UInt8.ofNat n.val).toNat) && decide ((UInt8.ofNat n.val).toNat ≤ 90)) || (decide (97 ≤ (UInt8.ofNat n.val).toNat) && decide ((UInt8.ofNat n.val).toNat ≤ 122))):=by decide +kernel
 have:=key ⟨c.toNat,c.toNat_lt⟩
 simpa using this
def digC (c:UInt8):Bool:=decide (48 ≤ c.toNat) && decide (c.toNat ≤ 57)
def plusC (c:UInt8):Bool:=c == 43 || c == 45 || c == 46
theorem schC_is (c:UInt8):schC c = (letC c || digC c || plusC c):=by
 unfold schC digC plusC
 simp only [Bool.or_assoc]
theorem plus_index (c:UInt8):decide (0 ≤ Lib.indexByte [43,45,46] c) = plusC c:=by
 have key:∀ n:Fin 256,decide (0 ≤ Lib.indexByte [43,45,46] (UInt8.ofNat n.val)) = plusC (UInt8.ofNat n.val):=by decide +kernel
 have:=key ⟨c.toNat,c.toNat_lt⟩
 simpa using this
theorem schS_cons (c:UInt8) (r:List UInt8):schS (c :: r) = (letC c && (c :: r).all schC):=by
 show (letC c && r.all schC) = (letC c && (schC c && r.all schC))
 cases h:letC c
 ·rfl
 ·rw [(letC_sch c h).1]; rfl
theorem dirS_snoc (l:List UInt8) (c:UInt8):dirS (l++[c]) = if c = 47 then l++[c] else dirS l:=by
 unfold dirS
 rw [List.reverse_append]
 simp only [List.reverse_cons,List.reverse_nil,List.nil_append,List.singleton_append,List.dropWhile_cons]
 by_cases h:c = 47
 ·subst h; simp
 ·have:(c != 47) = true:=by simpa using h
  rw [if_pos this,if_neg h]
theorem dirS_take (s:ByteArray) (k:Nat) (h:k < s.size):dirS (s.data.toList.take (k+1)) = if s[k] = 47 then s.data.toList.take (k+1) else dirS (s.data.toList.take k):=by
 rw [take_snoc s k h,dirS_snoc]
theorem get_data (s:ByteArray) (j:Nat) (h:j < s.size):s.data[j]! = s[j]:=by
 have:s.data[j]? = some s[j]:=by
  rw [Array.getElem?_eq_getElem h]; rfl
 simp [getElem!_def,this]
theorem dirS_last (s:ByteArray):∀ k,k ≤ s.size → (Lib.lastIdx s 47 k = -1∧dirS (s.data.toList.take k) = []) ∨ ∃ i:Nat,i < k∧Lib.lastIdx s 47 k = i∧dirS (s.data.toList.take k) = s.data.toList.take (i+1)
 | 0,_=>.inl ⟨rfl,rfl⟩
 | k+1,h=>by
  rw [dirS_take s k h,Lib.lastIdx,get_data s k h]
  have e:((s[k].toNat:Int) = 47) = (s[k] = 47):=by
   rw [eq_iff_iff,← UInt8.toNat_inj]
   constructor
   ·intro h; show s[k].toNat = 47; omega
   ·intro h; have:s[k].toNat = 47:=h; omega
  simp only [e]
  by_cases h47:s[k] = 47
  ·rw [if_pos h47,if_pos h47]
   exact .inr ⟨k,Nat.lt_succ_self k,rfl,rfl⟩
  ·rw [if_neg h47,if_neg h47]
   rcases dirS_last s k (by omega) with ⟨a,b⟩ | ⟨i,a,b,c⟩
   ·exact .inl ⟨a,b⟩
   ·exact .inr ⟨i,by omega,b,c⟩
theorem dirS_cases (s:ByteArray):(Lib.lastIndexByte s 47 = -1∧dirS s.data.toList = []) ∨ ∃ i:Nat,i < s.size∧Lib.lastIndexByte s 47 = i∧dirS s.data.toList = s.data.toList.take (i+1):=by
 have:=dirS_last s s.size (Nat.le_refl _)
 rw [take_all s s.size (Nat.lt_irrefl _)] at this
 exact this
def stepO (o:List (List UInt8)) (f:Bool) (x:List UInt8) (last:Bool):List (List UInt8):=
 if x = []∧last = false∧f = false then o else if x ≠ dot∧x ≠ dotdot then o++[x]
 else if last then (if x = dotdot then popP o else o)++[[]] else if x = dotdot then popP o else o
theorem dotsG_step (o:List (List UInt8)) (f:Bool) (x:List UInt8) (r:List (List UInt8)):dotsG o f (x :: r) = dotsG (stepO o f x r.isEmpty) false r:=by
 conv=>lhs; unfold dotsG
 unfold stepO
 cases r with
 | nil =>
  by_cases hd:x ≠ dot∧x ≠ dotdot
  ·simp [hd,dotsG]
  ·simp [hd,dotsG]
 | cons y r =>
  by_cases h1:x = []∧f = false
  ·simp [h1]
  ·by_cases hd:x ≠ dot∧x ≠ dotdot
   ·simp [h1,hd]
   ·simp [h1,hd]
def FirstE (o:List (List UInt8)):Prop:=∀ x ∈ o.tail,x ≠ []
theorem popP_firstE {o:List (List UInt8)} (h:FirstE o):FirstE (popP o):=by
 unfold popP
 split
 ·exact h
 ·intro x hx
  rw [List.tail_dropLast] at hx
  exact h x (List.dropLast_subset _ hx)
theorem stepO_firstE {o:List (List UInt8)} {f:Bool} {x:List UInt8} (h:FirstE o) (h0:f = true → o = []):FirstE (stepO o f x false):=by
 unfold stepO
 by_cases h1:x = []∧f = false
 ·simpa [h1] using h
 ·by_cases hd:x ≠ dot∧x ≠ dotdot
  ·have:¬ (x = []∧false = false∧f = false):=fun hh=>h1 ⟨hh.1,hh.2.2⟩
   rw [if_neg this,if_pos hd]
   cases o with
   | nil=>intro y hy; simp at hy
   | cons a o =>
    have hf:f = false:=by
     cases f with
     | false=>rfl
     | true=>exact absurd (h0 rfl) (by simp)
    intro y hy
    simp only [List.cons_append,List.tail_cons] at hy
    rcases List.mem_append.1 hy with hy | hy
    ·exact h y hy
    ·rw [List.mem_singleton.1 hy]
     exact fun e=>h1 ⟨e,hf⟩
  ·have:¬ (x = []∧false = false∧f = false):=fun hh=>h1 ⟨hh.1,hh.2.2⟩
   rw [if_neg this,if_neg hd]
   simp only [Bool.false_eq_true,if_false]
   split
   ·exact popP_firstE h
   ·exact h
def upP (o:List (List UInt8)):List (List UInt8):=if o = [] ∨ o.getLast? = some [] then o else o.dropLast
theorem upP_pop {o:List (List UInt8)} (h:FirstE o):upP o = popP o:=by
 unfold upP popP
 cases o with
 | nil=>rfl
 | cons a o =>
  cases o with
  | nil=>by_cases ha:a = [] <;> simp [ha]
  | cons b o =>
   have hl:(a :: b :: o).getLast? ≠ some []:=by
    intro e
    rw [List.getLast?_cons_cons] at e
    exact h [] (List.mem_of_getLast? e) rfl
   have h1:¬ (a :: b :: o = [] ∨ (a :: b :: o).getLast? = some []):=by
    rintro (e | e)
    ·cases e
    ·exact hl e
   rw [if_neg h1,if_neg (by simp)]
end Go.Proofs.YtknhacbfddggpaaGreatDoor
namespace Go.Proofs.YtknhacbfddggpaaGreatDoor
open Go.RowKit
structure AV where
 sc:ByteArray
 hA:Bool
 au:ByteArray
 pa:ByteArray
 hQ:Bool
 qu:ByteArray
 hF:Bool
 fr:ByteArray
abbrev AV.val (a:AV):Value:=.agg #[.string a.sc,.bool a.hA,.string a.au,.string a.pa,.bool a.hQ,.string a.qu,.bool a.hF,.string a.fr]
def AV.ab (a:AV):AB:=⟨a.sc.data.toList,a.hA,a.au.data.toList,a.pa.data.toList,a.hQ,a.qu.data.toList,a.hF,a.fr.data.toList⟩
structure AV.Small (a:AV) (n:Nat):Prop where
 sc:a.sc.size ≤ n
 au:a.au.size ≤ n
 pa:a.pa.size ≤ n
 qu:a.qu.size ≤ n
 fr:a.fr.size ≤ n
theorem av_small {sc au pa qu fr:ByteArray} {hA hQ hF:Bool} {n:Nat} (h0:sc.size ≤ n) (h1:au.size ≤ n) (h2:pa.size ≤ n) (h3:qu.size ≤ n) (h4:fr.size ≤ n):AV.Small ⟨sc,hA,au,pa,hQ,qu,hF,fr⟩ n:=⟨h0,h1,h2,h3,h4⟩
theorem ab_inj {a b:AV} (h:a.ab = b.ab):a = b:=by
 obtain ⟨a0,a1,a2,a3,a4,a5,a6,a7⟩:=a
 obtain ⟨b0,b1,b2,b3,b4,b5,b6,b7⟩:=b
 simp only [AV.ab,AB.mk.injEq] at h
 obtain ⟨h0,h1,h2,h3,h4,h5,h6,h7⟩:=h
 rw [bytes_eq h0,h1,bytes_eq h2,bytes_eq h3,h4,bytes_eq h5,h6,bytes_eq h7]
def AV.of (a:AB):AV:=⟨⟨a.sch.toArray⟩,a.hasA,⟨a.auth.toArray⟩,⟨a.path.toArray⟩,a.hasQ,⟨a.query.toArray⟩,a.hasF,⟨a.frag.toArray⟩⟩
theorem ab_of (a:AB):(AV.of a).ab = a:=by cases a; simp [AV.of,AV.ab]
theorem of_ab (a:AV):AV.of a.ab = a:=ab_inj (ab_of _)
set_option maxHeartbeats 1600000 in
set_option maxRecDepth 100000 in
theorem awrite_raw (sc au pa qu fr:ByteArray) (hA hQ hF:Bool) (w:World) (s0:sc.size ≤ 1000000) (s1:au.size ≤ 1000000) (s2:pa.size ≤ 1000000) (s3:qu.size ≤ 1000000) (s4:fr.size ≤ 1000000) :
  Calls Tryz.prog 67 #[.agg #[.string sc,.bool hA,.string au,.string pa,.bool hQ,.string qu,.bool hF,.string fr]] w fun e w'=>∃ S:ByteArray,e = .returned (.string S)∧S.data.toList = writeA (AV.ab ⟨sc,hA,au,pa,hQ,qu,hF,fr⟩)∧Below w.heap.size w w':=by
 have hb:=(Below.refl w.heap.size w).alloc (Nat.le_refl _) (.cells #[.string sc,.bool hA,.string au,.string pa,.bool hQ,.string qu,.bool hF,.string fr] 36)
 by_cases h0:sc.size = 0
 ·have he:sc.toList.isEmpty = true:=empty_of sc h0
  have HE:Box (sc.data.toList = []):=⟨data_nil sc h0⟩
  clear h0
  cases hA <;> cases hQ <;> cases hF
  all_goals
   go_enter Tryz.func67,Tryz.ntmps67
   go_wp2
   go_ret
   exact ⟨_,rfl,by simp [writeA,AV.ab,HE.out],hb⟩
 ·have he:sc.toList.isEmpty = false:=nonempty_of sc h0
  have HE:Box (¬ sc.data.toList = []):=⟨fun e=>h0 (by rw [← size_list,e]; rfl)⟩
  clear h0
  cases hA <;> cases hQ <;> cases hF
  all_goals
   go_enter Tryz.func67,Tryz.ntmps67
   go_wp2
   go_ret
   exact ⟨_,rfl,by simp [writeA,AV.ab,HE.out],hb⟩
end Go.Proofs.YtknhacbfddggpaaGreatDoor
namespace Go.Proofs.YtknhacbfddggpaaGreatDoor
open Go.RowKit
theorem letC_no (c:UInt8) (h:letC c = false):(c.toNat:Int) < 65 ∨ (90 < (c.toNat:Int)∧(c.toNat:Int) < 97) ∨ 122 < (c.toNat:Int):=by
 rw [letC_is] at h
 simp only [Bool.or_eq_false_iff,Bool.and_eq_false_iff,decide_eq_false_iff_not] at h
 omega
theorem letC_yes (c:UInt8) (h:letC c = true):(65 ≤ (c.toNat:Int)∧(c.toNat:Int) ≤ 90) ∨ (97 ≤ (c.toNat:Int)∧(c.toNat:Int) ≤ 122):=by
 rw [letC_is] at h
 simp only [Bool.or_eq_true,Bool.and_eq_true,decide_eq_true_eq] at h
 omega
theorem digC_no (c:UInt8) (h:digC c = false):(c.toNat:Int) < 48 ∨ 57 < (c.toNat:Int):=by
 simp only [digC,Bool.and_eq_false_iff,decide_eq_false_iff_not] at h
 omega
theorem digC_yes (c:UInt8) (h:digC c = true):48 ≤ (c.toNat:Int)∧(c.toNat:Int) ≤ 57:=by
 simp only [digC,Bool.and_eq_true,decide_eq_true_eq] at h
 omega
theorem isLetter_any (c:UInt8) (q:Bool) (hq:letC c = q) (w:World):Calls Tryz.prog 130 #[.int .u8 (c.toNat:Int)] w fun e w'=>e = .returned (.bool q)∧w' = w:=by
 cases q
 ·rcases letC_no c hq with h | ⟨h1,h2⟩ | h
  ·have h3:¬ (65:Int) ≤ (c.toNat:Int):=by omega
   have h4:¬ (97:Int) ≤ (c.toNat:Int):=by omega
   clear hq h
   go_enter Tryz.func130,Tryz.ntmps130
   go_wp2
   go_ret
   exact ⟨rfl,rfl⟩
  ·have h3:(65:Int) ≤ (c.toNat:Int):=by omega
   have h4:¬ (c.toNat:Int) ≤ 90:=by omega
   have h5:¬ (97:Int) ≤ (c.toNat:Int):=by omega
   clear hq h1 h2
   go_enter Tryz.func130,Tryz.ntmps130
   go_wp2
   go_ret
   exact ⟨rfl,rfl⟩
  ·have h3:(65:Int) ≤ (c.toNat:Int):=by omega
   have h4:¬ (c.toNat:Int) ≤ 90:=by omega
   have h5:(97:Int) ≤ (c.toNat:Int):=by omega
   have h6:¬ (c.toNat:Int) ≤ 122:=by omega
   clear hq h
   go_enter Tryz.func130,Tryz.ntmps130
   go_wp2
   go_ret
   exact ⟨rfl,rfl⟩
 ·rcases letC_yes c hq with ⟨h1,h2⟩ | ⟨h1,h2⟩
  ·clear hq
   go_enter Tryz.func130,Tryz.ntmps130
   go_wp2
   go_ret
   exact ⟨rfl,rfl⟩
  ·have h3:(65:Int) ≤ (c.toNat:Int):=by omega
   have h4:¬ (c.toNat:Int) ≤ 90:=by omega
   clear hq
   go_enter Tryz.func130,Tryz.ntmps130
   go_wp2
   go_ret
   exact ⟨rfl,rfl⟩
theorem isDigit_any (c:UInt8) (q:Bool) (hq:digC c = q) (w:World):Calls Tryz.prog 131 #[.int .u8 (c.toNat:Int)] w fun e w'=>e = .returned (.bool q)∧w' = w:=by
 cases q
 ·rcases digC_no c hq with h | h
  ·have h3:¬ (48:Int) ≤ (c.toNat:Int):=by omega
   clear hq h
   go_enter Tryz.func131,Tryz.ntmps131
   go_wp2
   go_ret
   exact ⟨rfl,rfl⟩
  ·have h3:(48:Int) ≤ (c.toNat:Int):=by omega
   have h4:¬ (c.toNat:Int) ≤ 57:=by omega
   clear hq h
   go_enter Tryz.func131,Tryz.ntmps131
   go_wp2
   go_ret
   exact ⟨rfl,rfl⟩
 ·obtain ⟨h1,h2⟩:=digC_yes c hq
  clear hq
  go_enter Tryz.func131,Tryz.ntmps131
  go_wp2
  go_ret
  exact ⟨rfl,rfl⟩
theorem one_byte (s:ByteArray) (k:Nat) (h:k < s.size):s.extract k (k+1) = ⟨#[s[k]]⟩:=by
 apply bytes_eq
 rw [extract_list,Nat.add_sub_cancel_left,List.take_one,List.head?_drop,getL s k h]
 rfl
theorem plus_any (s:ByteArray) (k:Nat) (h:k < s.size) (q:Bool) (hq:plusC s[k] = q) (w:World):Calls Tryz.prog 13 #[.string ⟨#[43,45,46]⟩,.string (s.extract k (k+1))] w fun e w'=>e = .returned (.bool q)∧w' = w:=by
 rw [one_byte s k h]
 refine (Tryz.strings_Contains_one ⟨#[43,45,46]⟩ s[k] w).mono ?_
 rintro e w' ⟨rfl,rfl⟩
 exact ⟨ret_bool ((plus_index s[k]).trans hq),rfl⟩
theorem in33_yes (c:UInt8) (h:in33 c = true):¬ (c.toNat:Int) < 33∧¬ 126 < (c.toNat:Int):=by
 simp only [in33,Bool.and_eq_true,decide_eq_true_eq] at h
 omega
theorem in33_no (c:UInt8) (h:in33 c = false):(c.toNat:Int) < 33 ∨ (¬ (c.toNat:Int) < 33∧126 < (c.toNat:Int)):=by
 simp only [in33,Bool.and_eq_false_iff,decide_eq_false_iff_not] at h
 omega
set_option maxHeartbeats 800000 in
theorem mayStand_any (s:ByteArray) (w:World) (hl:s.size ≤ 1000000) (q:Bool) (hq:s.data.toList.all in33 = q) :
  Calls Tryz.prog 80 #[.string s] w fun e w'=>e = .returned (.bool q)∧w' = w:=by
 have HQ:=Box.mk hq
 clear hq
 go_enter Tryz.func80,Tryz.ntmps80
 go_wp2
 go_loop [6] (fun i=>∃ k:Nat,k ≤ s.size∧i = .int .i64 k∧Box ((s.data.toList.take k).all in33 = true)) (fun i=>s.size - (intOf i).toNat)
 case atStart=>exact ⟨0,Nat.zero_le _,rfl,⟨rfl⟩⟩
 case round =>
  obtain ⟨k,hk,rfl,HA⟩:=hrel
  by_cases hlt:k < s.size
  ·cases hc:in33 s[k]
   ·have HF:Box (q = false):=⟨by rw [← HQ.out]; exact all_stop s k hlt hc⟩
    have hx:=in33_no _ hc
    clear hc HA HQ
    rcases hx with x1 | ⟨x1,x2⟩
    all_goals
     go_wp2
     go_ret
     exact ⟨ret_bool HF.out.symm,rfl⟩
   ·have HA':Box ((s.data.toList.take (k+1)).all in33 = true):=⟨all_on s k hlt HA.out hc⟩
    obtain ⟨x1,x2⟩:=in33_yes _ hc
    clear hc HA HQ
    go_wp2
    go_round
    case rel=>exact ⟨k+1,by omega,by go_num,HA'⟩
    case measure=>simp [intOf]; omega
  ·have HF:Box (q = true):=⟨by rw [← HQ.out,← take_all s k hlt]; exact HA.out⟩
   clear HA HQ
   go_wp2
   go_ret
   exact ⟨ret_bool HF.out.symm,rfl⟩
set_option maxHeartbeats 1600000 in
theorem isScheme_any (s:ByteArray) (w:World) (hl:s.size ≤ 1000000) (q:Bool) (hq:schS s.data.toList = q) :
  Calls Tryz.prog 81 #[.string s] w fun e w'=>e = .returned (.bool q)∧w' = w:=by
 have HQ:=Box.mk hq
 clear hq
 by_cases h0:s.size = 0
 ·have HF:Box (q = false):=⟨by rw [← HQ.out,data_nil s h0]; rfl⟩
  have he:=empty_of s h0
  clear HQ
  go_enter Tryz.func81,Tryz.ntmps81
  go_wp2
  go_ret
  exact ⟨ret_bool HF.out.symm,rfl⟩
 ·have he:=nonempty_of s h0
  have hp:0 < s.size:=by omega
  have HS:Box (q = (letC s[0] && s.data.toList.all schC)):=⟨by rw [← HQ.out,head_split s hp,schS_cons]⟩
  clear HQ
  cases hc0:letC s[0]
  ·have HF:Box (q = false):=⟨by rw [HS.out,hc0]; rfl⟩
   clear HS
   go_enter Tryz.func81,Tryz.ntmps81
   go_wp2_with fail
   refine (isLetter_any s[0] false hc0 _).mono ?_
   rintro e w1 ⟨rfl,rfl⟩
   go_wp2
   go_ret
   exact ⟨ret_bool HF.out.symm,rfl⟩
  ·have HF:Box (q = s.data.toList.all schC):=⟨by rw [HS.out,hc0]; rfl⟩
   clear HS
   go_enter Tryz.func81,Tryz.ntmps81
   go_wp2_with fail
   refine (isLetter_any s[0] true hc0 _).mono ?_
   rintro e w1 ⟨rfl,rfl⟩
   go_wp2
   go_loop [14] (fun i=>∃ k:Nat,k ≤ s.size∧i = .int .i64 k∧Box ((s.data.toList.take k).all schC = true)) (fun i=>s.size - (intOf i).toNat)
   case atStart=>exact ⟨0,Nat.zero_le _,rfl,⟨rfl⟩⟩
   case round =>
    obtain ⟨k,hk,rfl,HA⟩:=hrel
    by_cases hlt:k < s.size
    ·have HC:=Box.mk (schC_is s[k])
     cases hc:letC s[k]
     ·cases hd:digC s[k]
      ·cases hp:plusC s[k]
       ·have HE:Box (q = false):=⟨by rw [HF.out]; exact all_stop s k hlt (by rw [HC.out,hc,hd,hp]; rfl)⟩
        clear HC HF HA
        go_wp2_with fail
        refine (isLetter_any s[k] false hc _).mono ?_
        rintro e w1 ⟨rfl,rfl⟩
        go_wp2_with fail
        refine (isDigit_any s[k] false hd _).mono ?_
        rintro e w1 ⟨rfl,rfl⟩
        go_wp2_with fail
        refine (plus_any s k hlt false hp _).mono ?_
        rintro e w1 ⟨rfl,rfl⟩
        go_wp2
        go_ret
        exact ⟨ret_bool HE.out.symm,rfl⟩
       ·have HA':Box ((s.data.toList.take (k+1)).all schC = true):=⟨all_on s k hlt HA.out (by rw [HC.out,hc,hd,hp]; rfl)⟩
        clear HC HF HA
        go_wp2_with fail
        refine (isLetter_any s[k] false hc _).mono ?_
        rintro e w1 ⟨rfl,rfl⟩
        go_wp2_with fail
        refine (isDigit_any s[k] false hd _).mono ?_
        rintro e w1 ⟨rfl,rfl⟩
        go_wp2_with fail
        refine (plus_any s k hlt true hp _).mono ?_
        rintro e w1 ⟨rfl,rfl⟩
        go_wp2
        go_round
        case rel=>exact ⟨k+1,by omega,by go_num,HA'⟩
        case measure=>simp [intOf]; omega
      ·have HA':Box ((s.data.toList.take (k+1)).all schC = true):=⟨all_on s k hlt HA.out (by rw [HC.out,hc,hd]; rfl)⟩
       clear HC HF HA
       go_wp2_with fail
       refine (isLetter_any s[k] false hc _).mono ?_
       rintro e w1 ⟨rfl,rfl⟩
       go_wp2_with fail
       refine (isDigit_any s[k] true hd _).mono ?_
       rintro e w1 ⟨rfl,rfl⟩
       go_wp2
       go_round
       case rel=>exact ⟨k+1,by omega,by go_num,HA'⟩
       case measure=>simp [intOf]; omega
     ·have HA':Box ((s.data.toList.take (k+1)).all schC = true):=⟨all_on s k hlt HA.out (by rw [HC.out,hc]; rfl)⟩
      clear HC HF HA
      go_wp2_with fail
      refine (isLetter_any s[k] true hc _).mono ?_
      rintro e w1 ⟨rfl,rfl⟩
      go_wp2
      go_round
      case rel=>exact ⟨k+1,by omega,by go_num,HA'⟩
      case measure=>simp [intOf]; omega
    ·have HE:Box (q = true):=⟨by rw [HF.out,← take_all s k hlt]; exact HA.out⟩
     clear HA HF
     go_wp2
     go_ret
     exact ⟨ret_bool HE.out.symm,rfl⟩
end Go.Proofs.YtknhacbfddggpaaGreatDoor
namespace Go.Proofs.YtknhacbfddggpaaGreatDoor
open Go.RowKit
theorem while_none (l:List UInt8) (h:∀ d ∈ l,d ≠ 47):l.takeWhile (· != 47) = l∧l.dropWhile (· != 47) = []:=by
 induction l with
 | nil=>exact ⟨rfl,rfl⟩
 | cons c l ih =>
  have hc:(c != 47) = true:=by simpa using h c List.mem_cons_self
  obtain ⟨i1,i2⟩:=ih fun d hd=>h d (List.mem_cons_of_mem _ hd)
  rw [List.takeWhile_cons,List.dropWhile_cons,if_pos hc,if_pos hc,i1,i2]
  exact ⟨rfl,rfl⟩
theorem while_some (x y:List UInt8) (h:∀ d ∈ x,d ≠ 47):(x++47 :: y).takeWhile (· != 47) = x∧(x++47 :: y).dropWhile (· != 47) = 47 :: y:=by
 induction x with
 | nil=>exact ⟨rfl,rfl⟩
 | cons c l ih =>
  have hc:(c != 47) = true:=by simpa using h c List.mem_cons_self
  obtain ⟨i1,i2⟩:=ih fun d hd=>h d (List.mem_cons_of_mem _ hd)
  rw [List.cons_append,List.takeWhile_cons,List.dropWhile_cons,if_pos hc,if_pos hc,i1,i2]
  exact ⟨rfl,rfl⟩
set_option maxHeartbeats 800000 in
theorem authority_any (s:ByteArray) (w:World) :
  Calls Tryz.prog 82 #[.string s] w fun e w'=>∃ x y:ByteArray,e = .returned (.tuple #[.string x,.string y])∧x.data.toList = s.data.toList.takeWhile (· != 47)∧y.data.toList = s.data.toList.dropWhile (· != 47)∧x.size ≤ s.size∧y.size ≤ s.size∧w' = w.drew:=by
 rcases find_byte s.data.toList 47 with ⟨h1,h2⟩ | ⟨x,y,h1,h2,h3⟩
 ·obtain ⟨t1,t2⟩:=while_none _ h2
  have T1:=Box.mk t1
  have T2:=Box.mk t2
  clear t1 t2 h2
  go_enter Tryz.func82,Tryz.ntmps82
  go_wp2_with fail
  refine (Tryz.strings_IndexByte s 47 _).mono ?_
  rintro e w1 ⟨rfl,rfl⟩
  rw [show ((47:Int).toNat.toUInt8) = 47 from rfl,h1]
  go_wp2
  go_region
  go_wp2
  go_ret2
  refine ⟨_,_,rfl,?_,?_,?_,?_,rfl⟩
  ·exact T1.out.symm
  ·exact T2.out.symm
  ·simp
  ·simp
 ·obtain ⟨t1,t2⟩:=while_some x y h2
  rw [← h1] at t1 t2
  have hsz:s.size = x.length+(y.length+1):=by rw [← size_list,h1]; simp
  obtain ⟨n,hn⟩:∃ n,n = x.length:=⟨_,rfl⟩
  rw [← hn] at h3 hsz
  have hln:n ≤ s.size:=by omega
  have T1:Box ((s.extract 0 n).data.toList = s.data.toList.takeWhile (· != 47)):=⟨by rw [t1,extract_list,h1,hn]; simp⟩
  have T2:Box ((s.extract n s.size).data.toList = s.data.toList.dropWhile (· != 47)):=⟨by
   rw [t2,extract_list,h1,hn,List.drop_left,List.take_of_length_le (by simp; omega)]⟩
  clear t1 t2 h2 hsz h1
  go_enter Tryz.func82,Tryz.ntmps82
  go_wp2_with fail
  refine (Tryz.strings_IndexByte s 47 _).mono ?_
  rintro e w1 ⟨rfl,rfl⟩
  rw [show ((47:Int).toNat.toUInt8) = 47 from rfl,h3]
  clear h3 hn
  go_wp2
  go_region
  go_wp2
  go_ret2
  refine ⟨_,_,rfl,T1.out,T2.out,?_,?_,rfl⟩
  ·simp; omega
  ·simp
theorem acut_any (s:ByteArray) (c:UInt8) (w:World) (hs:s.size ≤ 1000000) (hm:Max w) :
  Calls Tryz.prog 76 #[.string s,.string ⟨#[c]⟩] w fun e w'=>∃ a b f,e = .returned (.tuple #[.string a,.string b,.bool f])∧Lib.cut s.data.toList [c] = (a.data.toList,b.data.toList,f)∧a.size ≤ s.size∧b.size ≤ s.size∧∃ n,w' = w.drewN n:=by
 obtain ⟨_,m,hm⟩:=hm
 refine (Tryz.strings_Cut s ⟨#[c]⟩ m w (by omega) hm).mono ?_
 rintro e w' ⟨rfl,n,rfl⟩
 have hsz:=size_list s
 refine ⟨_,_,_,rfl,rfl,?_,?_,n,rfl⟩
 ·rw [size_mk]
  rcases cut_parts s.data.toList [c] with ⟨_,h⟩ | ⟨_,h,_⟩
  ·show (Lib.cut s.data.toList [c]).1.length ≤ _; omega
  ·show (Lib.cut s.data.toList [c]).1.length ≤ _; rw [h]; omega
 ·rw [size_mk]
  rcases cut_parts s.data.toList [c] with ⟨_,h⟩ | ⟨_,_,h⟩
  ·show (Lib.cut s.data.toList [c]).2.1.length ≤ _; omega
  ·show (Lib.cut s.data.toList [c]).2.1.length ≤ _; rw [h]; simp
theorem two_slash (t:List UInt8):Lib.hasPrefix t [47,47] = decide (t.take 2 = [47,47]):=by
 unfold Lib.hasPrefix
 cases t with
 | nil=>rfl
 | cons a t =>
  cases t with
  | nil=>simp [List.isPrefixOf]
  | cons b t =>
   rw [Bool.eq_iff_iff]
   simp only [List.isPrefixOf,Bool.and_eq_true,beq_iff_eq,decide_eq_true_eq,List.take_succ_cons,List.take_zero,List.cons.injEq,and_true]
   constructor
   ·rintro ⟨rfl,rfl⟩; exact ⟨rfl,rfl⟩
   ·rintro ⟨rfl,rfl⟩; exact ⟨rfl,rfl⟩
theorem aslash_any (s:ByteArray) (w:World) :
  Calls Tryz.prog 41 #[.string s,.string ⟨#[47,47]⟩] w fun e w'=>∃ (r:ByteArray) (q:Bool),e = .returned (.tuple #[.string r,.bool q])∧q = decide (s.data.toList.take 2 = [47,47])∧(q = true → r.data.toList = s.data.toList.drop 2)∧r.size ≤ s.size∧w' = w:=by
 refine (Tryz.strings_CutPrefix s ⟨#[47,47]⟩ w).mono ?_
 rintro e w' ⟨rfl,rfl⟩
 have hsz:=size_list s
 refine ⟨_,_,rfl,two_slash _,fun hq=>?_,?_,rfl⟩
 ·show Lib.trimPrefix s.data.toList [47,47] = _
  unfold Lib.trimPrefix
  have hq':Lib.hasPrefix s.data.toList [47,47] = true:=hq
  rw [if_pos hq']
  rfl
 ·rw [size_mk]
  show (Lib.trimPrefix s.data.toList [47,47]).length ≤ _
  unfold Lib.trimPrefix
  split
  ·rw [List.length_drop]; omega
  ·omega
abbrev avZero:AV:=⟨⟨#[]⟩,false,⟨#[]⟩,⟨#[]⟩,false,⟨#[]⟩,false,⟨#[]⟩⟩
abbrev avObj:Obj:=.cells #[.string ⟨#[]⟩,.bool false,.string ⟨#[]⟩,.string ⟨#[]⟩,.bool false,.string ⟨#[]⟩,.bool false,.string ⟨#[]⟩] 36
theorem two_heap (w:World) (N:Nat) (cs:Array Value) (B:Obj):(((w.drewN N).alloc (.cells cs 36)).alloc B).heap[w.heap.size]? = some (.cells cs 36):=by
 rw [Below.heap_alloc _ _ _ (by simp)]
 show (w.heap.push _)[w.heap.size]? = _
 simp
theorem two_frozen (w:World):∀ (N:Nat) (cs:Array Value) (B:Obj) (i:Nat),(((w.drewN N).alloc (.cells cs 36)).alloc B).frozen? ⟨w.heap.size,i,none⟩ = false:=by
 intro N cs B i
 simp [World.frozen?,two_heap w N cs B]
theorem two_cell (w:World):∀ (N:Nat) (cs:Array Value) (B:Obj) (i:Nat),(((w.drewN N).alloc (.cells cs 36)).alloc B).cell? ⟨w.heap.size,i,none⟩ = cs[i]?:=by
 intro N cs B i
 simp [World.cell?,two_heap w N cs B]
theorem two_set (w:World):∀ (N:Nat) (cs:Array Value) (i:Nat) (v:Value),((w.drewN N).alloc (.cells cs 36)).setCell ⟨w.heap.size,i,none⟩ v = (w.drewN N).alloc (.cells (cs.setIfInBounds i v) 36):=by
 intro N cs i v
 exact World.setCell_alloc_at cs _ _ i v rfl
theorem one_cell (w:World) (N:Nat) (cs:Array Value) (i:Nat):((w.drewN N).alloc (.cells cs 36)).cell? ⟨w.heap.size,i,none⟩ = cs[i]?:=by
 have h:((w.drewN N).alloc (.cells cs 36)).heap[w.heap.size]? = some (.cells cs 36 (0,0)):=by
  show (w.heap.push _)[w.heap.size]? = _
  simp
 simp only [World.cell?,h]
 rfl
def RAPost (l:List UInt8) (n:Nat) (e:Ending):Prop:=(readA l = none∧e = .returned (.tuple #[avZero.val,.iface 30 (.int .i64 3)])) ∨ ∃ v:AV,readA l = some v.ab∧v.Small n∧e = .returned (.tuple #[v.val,.nilIface])
theorem max_two {w:World} (hm:Max w) (A B:Obj):Max ((w.alloc A).alloc B):=hm.below (((Below.refl w.heap.size w).alloc (Nat.le_refl _) _).alloc (by simp) _) hm.1
theorem acut_two (s:ByteArray) (c:UInt8) (w:World) (A B:Obj) (hs:s.size ≤ 1000000) (hm:Max w) :
  Calls Tryz.prog 76 #[.string s,.string ⟨#[c]⟩] ((w.alloc A).alloc B) fun e w'=>∃ a b f,e = .returned (.tuple #[.string a,.string b,.bool f])∧Lib.cut s.data.toList [c] = (a.data.toList,b.data.toList,f)∧a.size ≤ s.size∧b.size ≤ s.size∧∃ n,w' = ((w.drewN n).alloc A).alloc B:=by
 refine (acut_any s c _ hs (max_two hm A B)).mono ?_
 rintro e w' ⟨a,b,f,h1,h2,h3,h4,n,rfl⟩
 exact ⟨a,b,f,h1,h2,h3,h4,n,rfl⟩
theorem authority_two (s:ByteArray) (w:World) (A B:Obj) :
  Calls Tryz.prog 82 #[.string s] ((w.alloc A).alloc B) fun e w'=>∃ x y:ByteArray,e = .returned (.tuple #[.string x,.string y])∧x.data.toList = s.data.toList.takeWhile (· != 47)∧y.data.toList = s.data.toList.dropWhile (· != 47)∧x.size ≤ s.size∧y.size ≤ s.size∧w' = ((w.drewN 1).alloc A).alloc B:=by
 refine (authority_any s _).mono ?_
 rintro e w' ⟨x,y,h1,h2,h3,h4,h5,rfl⟩
 exact ⟨x,y,h1,h2,h3,h4,h5,rfl⟩
theorem readA_parts {s s1 fr s2 qu sc re s3:ByteArray} {hF hQ ok:Bool} (h0:s.data.toList.all in33 = true) (h1:Lib.cut s.data.toList [35] = (s1.data.toList,fr.data.toList,hF)) (h2:Lib.cut s1.data.toList [63] = (s2.data.toList,qu.data.toList,hQ))
  (h3:Lib.cut s2.data.toList [58] = (sc.data.toList,re.data.toList,ok)) (S:ByteArray) (h4:(ok = true∧schS sc.data.toList = true∧S = sc∧s3 = re) ∨ ((ok = false ∨ (ok = true∧schS sc.data.toList = false))∧S = ⟨#[]⟩∧s3 = s2))
  (q:Bool) (au pa:ByteArray) (h5:q = decide (s3.data.toList.take 2 = [47,47])) (h6:(q = false∧au = ⟨#[]⟩∧pa = s3) ∨ (q = true∧au.data.toList = (s3.data.toList.drop 2).takeWhile (· != 47)∧pa.data.toList = (s3.data.toList.drop 2).dropWhile (· != 47))) :
  readA s.data.toList = some (AV.ab ⟨S,q,au,pa,hQ,qu,hF,fr⟩):=by
 have hs:schOf s2.data.toList = (S.data.toList,s3.data.toList):=by
  unfold schOf
  rw [h3]
  rcases h4 with ⟨rfl,h,rfl,rfl⟩ | ⟨rfl | ⟨rfl,h⟩,rfl,rfl⟩
  ·simp [h]
  ·simp
  ·simp [h]
 have ha:authOf s3.data.toList = (q,au.data.toList,pa.data.toList):=by
  unfold authOf
  rcases h6 with ⟨rfl,rfl,rfl⟩ | ⟨rfl,e1,e2⟩
  ·have:¬ pa.data.toList.take 2 = [47,47]:=by simpa using h5.symm
   rw [if_neg this]
  ·have:s3.data.toList.take 2 = [47,47]:=by simpa using h5.symm
   rw [if_pos this,e1,e2]
 unfold readA
 rw [if_pos h0]
 simp only [h1,h2,hs,ha,AV.ab]
set_option maxHeartbeats 4000000 in
set_option maxRecDepth 100000 in
theorem aread_any (s:ByteArray) (w:World) (hs:s.size ≤ 1000000) (hm:Max w) :
  Calls Tryz.prog 38 #[.string s] w fun e w'=>RAPost s.data.toList s.size e∧Below w.heap.size w w':=by
 have HMx:=Box.mk hm
 have hw0:=hm.1
 clear hm
 cases h0:s.data.toList.all in33
 ·have HE:Box (readA s.data.toList = none):=⟨by unfold readA; rw [h0]; rfl⟩
  go_enter Tryz.func38,Tryz.ntmps38
  go_wp2_with fail
  refine (mayStand_any s _ hs false h0).mono ?_
  rintro e w1 ⟨rfl,rfl⟩
  clear h0
  go_wp2
  exact bodyPost_ret (v:=.tuple #[avZero.val,.iface 30 (.int .i64 3)]) (by simp [results,Tryz.results38,go_sem]) rfl ⟨.inl ⟨HE.out,rfl⟩,(Below.refl _ _).alloc (Nat.le_refl _) _⟩
 ·have H0:=Box.mk h0
  go_enter Tryz.func38,Tryz.ntmps38
  go_wp2_with fail
  refine (mayStand_any s _ hs true h0).mono ?_
  rintro e w1 ⟨rfl,rfl⟩
  clear h0
  go_wp2_with fail
  refine (acut_two s 35 w _ _ hs HMx.out).mono ?_
  rintro e w1 ⟨s1,fr,hF,rfl,h1,z1,z2,n1,rfl⟩
  have H1:=Box.mk h1
  clear h1
  go_wp2_with fail
  refine (acut_two s1 63 (w.drewN n1) _ _ (by omega) HMx.out).mono ?_
  rintro e w1 ⟨s2,qu,hQ,rfl,h2,z3,z4,n2,rfl⟩
  have H2:=Box.mk h2
  clear h2
  go_wp2_with fail
  refine (acut_two s2 58 (w.drewN (n1+n2)) _ _ (by omega) HMx.out).mono ?_
  rintro e w1 ⟨sc,re,ok,rfl,h3,z5,z6,n3,rfl⟩
  have H3:=Box.mk h3
  clear h3
  cases ok
  ·go_wp2_with fail
   refine (aslash_any s2 _).mono ?_
   rintro e w1 ⟨r,q,rfl,h5,h6,z7,rfl⟩
   cases q
   ·have HE:Box (readA s.data.toList = some (AV.ab ⟨⟨#[]⟩,false,⟨#[]⟩,s2,hQ,qu,hF,fr⟩)):=⟨readA_parts H0.out H1.out H2.out H3.out ⟨#[]⟩ (.inr ⟨.inl rfl,rfl,rfl⟩) false ⟨#[]⟩ s2 h5 (.inl ⟨rfl,rfl,rfl⟩)⟩
    have HZ:Box (AV.Small ⟨⟨#[]⟩,false,⟨#[]⟩,s2,hQ,qu,hF,fr⟩ s.size):=⟨av_small (by first | omega | exact Nat.zero_le _) (Nat.zero_le _) (by omega) (by omega) (by omega)⟩
    clear h5 h6 H0 H1 H2 H3
    have hfz:=two_frozen w
    have hcl:=two_cell w
    have hst:=two_set w
    go_wp2
    refine bodyPost_ret (v:=.tuple #[.agg #[.string ⟨#[]⟩,.bool false,.string ⟨#[]⟩,.string s2,.bool hQ,.string qu,.bool hF,.string fr],.nilIface]) (by simp [results,Tryz.results38,go_sem,one_cell w]) rfl ⟨.inr ⟨_,HE.out,HZ.out,rfl⟩,?_⟩
    repeat first | exact Below.refl _ _ | apply below_drewN | (refine Below.setCell ?_ (by simp) _) | (refine Below.alloc ?_ (by simp) _)
   ·have H5:=Box.mk h5
    have H6:=Box.mk (h6 rfl)
    clear h5 h6
    go_wp2_with fail
    refine (authority_two r _ _ _).mono ?_
    rintro e w1 ⟨au,pa,rfl,h7,h8,z8,z9,rfl⟩
    have HE:Box (readA s.data.toList = some (AV.ab ⟨⟨#[]⟩,true,au,pa,hQ,qu,hF,fr⟩)):=⟨readA_parts H0.out H1.out H2.out H3.out ⟨#[]⟩ (.inr ⟨.inl rfl,rfl,rfl⟩) true au pa H5.out (.inr ⟨rfl,by rw [h7,H6.out],by rw [h8,H6.out]⟩)⟩
    have HZ:Box (AV.Small ⟨⟨#[]⟩,true,au,pa,hQ,qu,hF,fr⟩ s.size):=⟨av_small (by first | omega | exact Nat.zero_le _) (by omega) (by omega) (by omega) (by omega)⟩
    clear h7 h8 H0 H1 H2 H3 H5 H6
    have hfz:=two_frozen w
    have hcl:=two_cell w
    have hst:=two_set w
    go_wp2
    refine bodyPost_ret (v:=.tuple #[.agg #[.string ⟨#[]⟩,.bool true,.string au,.string pa,.bool hQ,.string qu,.bool hF,.string fr],.nilIface]) (by simp [results,Tryz.results38,go_sem,one_cell w]) rfl ⟨.inr ⟨_,HE.out,HZ.out,rfl⟩,?_⟩
    repeat first | exact Below.refl _ _ | apply below_drewN | (refine Below.setCell ?_ (by simp) _) | (refine Below.alloc ?_ (by simp) _)
  ·cases hsc:schS sc.data.toList
   ·have HS:=Box.mk hsc
    go_wp2_with fail
    refine (isScheme_any sc _ (by omega) false hsc).mono ?_
    rintro e w1 ⟨rfl,rfl⟩
    clear hsc
    go_wp2_with fail
    refine (aslash_any s2 _).mono ?_
    rintro e w1 ⟨r,q,rfl,h5,h6,z7,rfl⟩
    cases q
    ·have HE:Box (readA s.data.toList = some (AV.ab ⟨⟨#[]⟩,false,⟨#[]⟩,s2,hQ,qu,hF,fr⟩)):=⟨readA_parts H0.out H1.out H2.out H3.out ⟨#[]⟩ (.inr ⟨.inr ⟨rfl,HS.out⟩,rfl,rfl⟩) false ⟨#[]⟩ s2 h5 (.inl ⟨rfl,rfl,rfl⟩)⟩
     have HZ:Box (AV.Small ⟨⟨#[]⟩,false,⟨#[]⟩,s2,hQ,qu,hF,fr⟩ s.size):=⟨av_small (by first | omega | exact Nat.zero_le _) (Nat.zero_le _) (by omega) (by omega) (by omega)⟩
     clear h5 h6 H0 H1 H2 H3
     have hfz:=two_frozen w
     have hcl:=two_cell w
     have hst:=two_set w
     go_wp2
     refine bodyPost_ret (v:=.tuple #[.agg #[.string ⟨#[]⟩,.bool false,.string ⟨#[]⟩,.string s2,.bool hQ,.string qu,.bool hF,.string fr],.nilIface]) (by simp [results,Tryz.results38,go_sem,one_cell w]) rfl ⟨.inr ⟨_,HE.out,HZ.out,rfl⟩,?_⟩
     repeat first | exact Below.refl _ _ | apply below_drewN | (refine Below.setCell ?_ (by simp) _) | (refine Below.alloc ?_ (by simp) _)
    ·have H5:=Box.mk h5
     have H6:=Box.mk (h6 rfl)
     clear h5 h6
     go_wp2_with fail
     refine (authority_two r _ _ _).mono ?_
     rintro e w1 ⟨au,pa,rfl,h7,h8,z8,z9,rfl⟩
     have HE:Box (readA s.data.toList = some (AV.ab ⟨⟨#[]⟩,true,au,pa,hQ,qu,hF,fr⟩)):=⟨readA_parts H0.out H1.out H2.out H3.out ⟨#[]⟩ (.inr ⟨.inr ⟨rfl,HS.out⟩,rfl,rfl⟩) true au pa H5.out (.inr ⟨rfl,by rw [h7,H6.out],by rw [h8,H6.out]⟩)⟩
     have HZ:Box (AV.Small ⟨⟨#[]⟩,true,au,pa,hQ,qu,hF,fr⟩ s.size):=⟨av_small (by first | omega | exact Nat.zero_le _) (by omega) (by omega) (by omega) (by omega)⟩
     clear h7 h8 H0 H1 H2 H3 H5 H6
     have hfz:=two_frozen w
     have hcl:=two_cell w
     have hst:=two_set w
     go_wp2
     refine bodyPost_ret (v:=.tuple #[.agg #[.string ⟨#[]⟩,.bool true,.string au,.string pa,.bool hQ,.string qu,.bool hF,.string fr],.nilIface]) (by simp [results,Tryz.results38,go_sem,one_cell w]) rfl ⟨.inr ⟨_,HE.out,HZ.out,rfl⟩,?_⟩
     repeat first | exact Below.refl _ _ | apply below_drewN | (refine Below.setCell ?_ (by simp) _) | (refine Below.alloc ?_ (by simp) _)
   ·have HS:=Box.mk hsc
    go_wp2_with fail
    refine (isScheme_any sc _ (by omega) true hsc).mono ?_
    rintro e w1 ⟨rfl,rfl⟩
    clear hsc
    go_wp2_with fail
    refine (aslash_any re _).mono ?_
    rintro e w1 ⟨r,q,rfl,h5,h6,z7,rfl⟩
    cases q
    ·have HE:Box (readA s.data.toList = some (AV.ab ⟨sc,false,⟨#[]⟩,re,hQ,qu,hF,fr⟩)):=⟨readA_parts H0.out H1.out H2.out H3.out sc (.inl ⟨rfl,HS.out,rfl,rfl⟩) false ⟨#[]⟩ re h5 (.inl ⟨rfl,rfl,rfl⟩)⟩
     have HZ:Box (AV.Small ⟨sc,false,⟨#[]⟩,re,hQ,qu,hF,fr⟩ s.size):=⟨av_small (by first | omega | exact Nat.zero_le _) (Nat.zero_le _) (by omega) (by omega) (by omega)⟩
     clear h5 h6 H0 H1 H2 H3
     have hfz:=two_frozen w
     have hcl:=two_cell w
     have hst:=two_set w
     go_wp2
     refine bodyPost_ret (v:=.tuple #[.agg #[.string sc,.bool false,.string ⟨#[]⟩,.string re,.bool hQ,.string qu,.bool hF,.string fr],.nilIface]) (by simp [results,Tryz.results38,go_sem,one_cell w]) rfl ⟨.inr ⟨_,HE.out,HZ.out,rfl⟩,?_⟩
     repeat first | exact Below.refl _ _ | apply below_drewN | (refine Below.setCell ?_ (by simp) _) | (refine Below.alloc ?_ (by simp) _)
    ·have H5:=Box.mk h5
     have H6:=Box.mk (h6 rfl)
     clear h5 h6
     go_wp2_with fail
     refine (authority_two r _ _ _).mono ?_
     rintro e w1 ⟨au,pa,rfl,h7,h8,z8,z9,rfl⟩
     have HE:Box (readA s.data.toList = some (AV.ab ⟨sc,true,au,pa,hQ,qu,hF,fr⟩)):=⟨readA_parts H0.out H1.out H2.out H3.out sc (.inl ⟨rfl,HS.out,rfl,rfl⟩) true au pa H5.out (.inr ⟨rfl,by rw [h7,H6.out],by rw [h8,H6.out]⟩)⟩
     have HZ:Box (AV.Small ⟨sc,true,au,pa,hQ,qu,hF,fr⟩ s.size):=⟨av_small (by first | omega | exact Nat.zero_le _) (by omega) (by omega) (by omega) (by omega)⟩
     clear h7 h8 H0 H1 H2 H3 H5 H6
     have hfz:=two_frozen w
     have hcl:=two_cell w
     have hst:=two_set w
     go_wp2
     refine bodyPost_ret (v:=.tuple #[.agg #[.string sc,.bool true,.string au,.string pa,.bool hQ,.string qu,.bool hF,.string fr],.nilIface]) (by simp [results,Tryz.results38,go_sem,one_cell w]) rfl ⟨.inr ⟨_,HE.out,HZ.out,rfl⟩,?_⟩
     repeat first | exact Below.refl _ _ | apply below_drewN | (refine Below.setCell ?_ (by simp) _) | (refine Below.alloc ?_ (by simp) _)
end Go.Proofs.YtknhacbfddggpaaGreatDoor
