import Derived.Test.YtknhacbfddggpaaGreatDoorZ4
import Derived.Lib.IndexMore
import Derived.Test.YtknhacbfddggpaaGreatDoorZ7
namespace Go.Proofs.YtknhacbfddggpaaGreatDoor
open Go.RowKit
def splitP:List UInt8 → List (List UInt8)
 | []=>[[]]
 | c :: l=>if c = 47 then [] :: splitP l else match splitP l with | []=>[[c]] | x :: r=>(c :: x) :: r
def joinP:List (List UInt8) → List UInt8
 | []=>[]
 | [x]=>x
 | x :: y :: r=>x++47 :: joinP (y :: r)
theorem splitP_slash (t:List UInt8):splitP (47 :: t) = [] :: splitP t:=by
 conv=>lhs; unfold splitP
 rw [if_pos rfl]
theorem splitP_char (c:UInt8) (l:List UInt8) (h:c ≠ 47):splitP (c :: l) = match splitP l with | []=>[[c]] | x :: r=>(c :: x) :: r:=by
 conv=>lhs; unfold splitP
 rw [if_neg h]
theorem splitP_ne (l:List UInt8):splitP l ≠ []:=by
 cases l with
 | nil=>simp [splitP]
 | cons c l =>
  unfold splitP
  split
  ·simp
  ·split <;> simp
theorem joinP_cons (x:List UInt8) (r:List (List UInt8)) (h:r ≠ []):joinP (x :: r) = x++47 :: joinP r:=by
 cases r with
 | nil=>exact absurd rfl h
 | cons y r=>rfl
theorem join_split (l:List UInt8):joinP (splitP l) = l:=by
 induction l with
 | nil=>rfl
 | cons c l ih =>
  unfold splitP
  by_cases h:c = 47
  ·rw [if_pos h,joinP_cons _ _ (splitP_ne l),ih,h]; rfl
  ·rw [if_neg h]
   cases hs:splitP l with
   | nil=>exact absurd hs (splitP_ne l)
   | cons x r =>
    rw [hs] at ih
    simp only
    cases r with
    | nil=>simp only [joinP] at ih ⊢; rw [ih]
    | cons y r=>rw [joinP_cons _ _ (by simp)] at ih ⊢; rw [← ih]; rfl
theorem split_noslash (x:List UInt8) (h:(47:UInt8) ∉ x):splitP x = [x]:=by
 induction x with
 | nil=>rfl
 | cons c x ih =>
  unfold splitP
  rw [if_neg (fun e=>h (by rw [e]; simp)),ih (fun hm=>h (List.mem_cons_of_mem _ hm))]
theorem split_at (x t:List UInt8) (h:(47:UInt8) ∉ x):splitP (x++47 :: t) = x :: splitP t:=by
 induction x with
 | nil=>exact splitP_slash t
 | cons c x ih =>
  show splitP (c :: (x++47 :: t)) = _
  rw [splitP_char _ _ (fun e=>h (by rw [e]; simp)),ih (fun hm=>h (List.mem_cons_of_mem _ hm))]
theorem split_join (o:List (List UInt8)) (h0:o ≠ []) (h:∀ x ∈ o,(47:UInt8) ∉ x):splitP (joinP o) = o:=by
 induction o with
 | nil=>exact absurd rfl h0
 | cons x r ih =>
  cases r with
  | nil=>exact split_noslash x (h x List.mem_cons_self)
  | cons y r =>
   rw [joinP_cons _ _ (by simp),split_at _ _ (h x List.mem_cons_self),ih (by simp) (fun z hz=>h z (List.mem_cons_of_mem _ hz))]
theorem split_mem (l:List UInt8):∀ x ∈ splitP l,(47:UInt8) ∉ x∧∀ c ∈ x,c ∈ l:=by
 induction l with
 | nil=>intro x hx; simp [splitP] at hx; subst hx; exact ⟨by simp,fun c hc=>absurd hc (by simp)⟩
 | cons c l ih =>
  intro x hx
  unfold splitP at hx
  by_cases h:c = 47
  ·rw [if_pos h] at hx
   rcases List.mem_cons.1 hx with rfl | hx
   ·exact ⟨by simp,fun c hc=>absurd hc (by simp)⟩
   ·exact ⟨(ih x hx).1,fun d hd=>List.mem_cons_of_mem _ ((ih x hx).2 d hd)⟩
  ·rw [if_neg h] at hx
   cases hs:splitP l with
   | nil=>exact absurd hs (splitP_ne l)
   | cons y r =>
    rw [hs] at hx ih
    simp only at hx
    rcases List.mem_cons.1 hx with rfl | hx
    ·obtain ⟨i1,i2⟩:=ih y List.mem_cons_self
     refine ⟨fun hm=>?_,fun d hd=>?_⟩
     ·rcases List.mem_cons.1 hm with e | hm
      ·exact h e.symm
      ·exact i1 hm
     ·rcases List.mem_cons.1 hd with rfl | hd
      ·exact List.mem_cons_self
      ·exact List.mem_cons_of_mem _ (i2 d hd)
    ·obtain ⟨i1,i2⟩:=ih x (List.mem_cons_of_mem _ hx)
     exact ⟨i1,fun d hd=>List.mem_cons_of_mem _ (i2 d hd)⟩
def dot:List UInt8:=[46]
def dotdot:List UInt8:=[46,46]
def popP (o:List (List UInt8)):List (List UInt8):=if o = [[]] then o else o.dropLast
def dotsG:List (List UInt8) → Bool → List (List UInt8) → List (List UInt8)
 | o,_,[]=>o
 | o,f,x :: r=>if x = []∧r ≠ []∧f = false then dotsG o false r
  else if x ≠ dot∧x ≠ dotdot then dotsG (o++[x]) false r
  else if r = [] then (if x = dotdot then popP o else o)++[[]]
  else dotsG (if x = dotdot then popP o else o) false r
def dotsS (p:List UInt8):List UInt8:=joinP (dotsG [] true (splitP p))
def Clean1 (x:List UInt8):Prop:=x ≠ dot∧x ≠ dotdot∧(47:UInt8) ∉ x
def Part1 (o:List (List UInt8)):Prop:=(∀ x ∈ o,Clean1 x)∧∀ x ∈ o.tail,x ≠ []
def Whole1 (o:List (List UInt8)):Prop:=o ≠ []∧(∀ x ∈ o,Clean1 x)∧∀ x ∈ o.dropLast.tail,x ≠ []
theorem popP_part {o:List (List UInt8)} (h:Part1 o):Part1 (popP o):=by
 unfold popP
 split
 ·exact h
 ·refine ⟨fun x hx=>h.1 x (List.dropLast_subset _ hx),fun x hx=>h.2 x ?_⟩
  rw [List.tail_dropLast] at hx
  exact List.dropLast_subset _ hx
theorem part_whole {o:List (List UInt8)} (h:Part1 o) (x:List UInt8) (hx:Clean1 x):Whole1 (o++[x]):=by
 refine ⟨by simp,fun y hy=>?_,fun y hy=>?_⟩
 ·rcases List.mem_append.1 hy with hy | hy
  ·exact h.1 y hy
  ·rw [List.mem_singleton.1 hy]; exact hx
 ·rw [List.dropLast_concat] at hy
  exact h.2 y hy
theorem clean_empty:Clean1 []:=⟨by decide,by decide,by simp⟩
theorem part_snoc {o:List (List UInt8)} (h:Part1 o) (x:List UInt8) (hx:Clean1 x) (hne:o ≠ [] → x ≠ []):Part1 (o++[x]):=by
 refine ⟨fun y hy=>?_,fun y hy=>?_⟩
 ·rcases List.mem_append.1 hy with hy | hy
  ·exact h.1 y hy
  ·rw [List.mem_singleton.1 hy]; exact hx
 ·cases o with
  | nil=>simp at hy
  | cons a o =>
   simp only [List.cons_append,List.tail_cons] at hy
   rcases List.mem_append.1 hy with hy | hy
   ·exact h.2 y hy
   ·rw [List.mem_singleton.1 hy]; exact hne (by simp)
theorem dots_whole:∀ (l o:List (List UInt8)) (f:Bool),l ≠ [] → Part1 o → (f = true → o = []) → (∀ x ∈ l,(47:UInt8) ∉ x) → Whole1 (dotsG o f l)
 | [],o,f,h0,_,_,_=>absurd rfl h0
 | x :: r,o,f,_,ho,hf,hl=>by
  have hx:=hl x List.mem_cons_self
  have hr:∀ y ∈ r,(47:UInt8) ∉ y:=fun y hy=>hl y (List.mem_cons_of_mem _ hy)
  unfold dotsG
  by_cases h1:x = []∧r ≠ []∧f = false
  ·rw [if_pos h1]
   exact dots_whole r o false h1.2.1 ho (fun h=>by cases h) hr
  ·rw [if_neg h1]
   by_cases h2:x ≠ dot∧x ≠ dotdot
   ·rw [if_pos h2]
    by_cases h3:r = []
    ·subst h3
     exact part_whole ho x ⟨h2.1,h2.2,hx⟩
    ·refine dots_whole r _ false h3 (part_snoc ho x ⟨h2.1,h2.2,hx⟩ fun hne hxe=>?_) (fun h=>by cases h) hr
     apply h1
     refine ⟨hxe,h3,?_⟩
     cases f
     ·rfl
     ·exact absurd (hf rfl) hne
   ·rw [if_neg h2]
    have hp:Part1 (if x = dotdot then popP o else o):=by
     split
     ·exact popP_part ho
     ·exact ho
    by_cases h3:r = []
    ·rw [if_pos h3]
     exact part_whole hp [] clean_empty
    ·rw [if_neg h3]
     exact dots_whole r _ false h3 hp (fun h=>by cases h) hr
theorem dots_id:∀ (l o:List (List UInt8)) (f:Bool),(∀ x ∈ l,Clean1 x) → (∀ x ∈ l.dropLast,f = false → x ≠ []) → (f = true → ∀ x ∈ l.dropLast.tail,x ≠ []) → dotsG o f l = o++l
 | [],o,f,_,_,_=>by unfold dotsG; simp
 | x :: r,o,f,h,h1,h2=>by
  have hx:=h x List.mem_cons_self
  have hrc:∀ y ∈ r,Clean1 y:=fun y hy=>h y (List.mem_cons_of_mem _ hy)
  unfold dotsG
  have hn:¬ (x = []∧r ≠ []∧f = false):=by
   rintro ⟨a,b,c⟩
   refine h1 x ?_ c a
   cases r with
   | nil=>exact absurd rfl b
   | cons y r=>simp
  rw [if_neg hn,if_pos ⟨hx.1,hx.2.1⟩]
  have hmid:∀ y ∈ r.dropLast,y ≠ []:=by
   intro y hy
   cases r with
   | nil=>simp at hy
   | cons z r =>
    cases f with
    | false=>exact h1 y (by simp only [List.dropLast_cons_cons]; exact List.mem_cons_of_mem _ hy) rfl
    | true=>exact h2 rfl y (by simp only [List.dropLast_cons_cons,List.tail_cons]; exact hy)
  rw [dots_id r (o++[x]) false hrc (fun y hy _=>hmid y hy) (fun h=>by cases h)]
  simp
theorem whole_id {o:List (List UInt8)} (h:Whole1 o):dotsG [] true o = o:=by
 rw [dots_id o [] true h.2.1 (fun _ _ h=>by cases h) (fun _=>h.2.2)]; rfl
theorem dotsS_whole (p:List UInt8):Whole1 (dotsG [] true (splitP p)):=
 dots_whole _ [] true (splitP_ne p) ⟨fun x hx=>absurd hx (by simp),fun x hx=>absurd hx (by simp)⟩ (fun _=>rfl) (fun x hx=>(split_mem p x hx).1)
theorem dotsS_split (p:List UInt8):splitP (dotsS p) = dotsG [] true (splitP p):=by
 have h:=dotsS_whole p
 exact split_join _ h.1 fun x hx=>(h.2.1 x hx).2.2
theorem popP_mem {o:List (List UInt8)} {x:List UInt8} (h:x ∈ popP o):x ∈ o:=by
 unfold popP at h
 split at h
 ·exact h
 ·exact List.dropLast_subset _ h
theorem dots_mem:∀ (l o:List (List UInt8)) (f:Bool) (x:List UInt8),x ∈ dotsG o f l → x = [] ∨ x ∈ o ∨ x ∈ l
 | [],o,f,x,h=>by unfold dotsG at h; exact .inr (.inl h)
 | y :: r,o,f,x,h=>by
  unfold dotsG at h
  split at h
  ·rcases dots_mem r o false x h with h | h | h
   ·exact .inl h
   ·exact .inr (.inl h)
   ·exact .inr (.inr (List.mem_cons_of_mem _ h))
  ·split at h
   ·rcases dots_mem r _ false x h with h | h | h
    ·exact .inl h
    ·rcases List.mem_append.1 h with h | h
     ·exact .inr (.inl h)
     ·rw [List.mem_singleton.1 h]; exact .inr (.inr List.mem_cons_self)
    ·exact .inr (.inr (List.mem_cons_of_mem _ h))
   ·have hp:∀ z,z ∈ (if y = dotdot then popP o else o) → z ∈ o:=fun z hz=>by
     split at hz
     ·exact popP_mem hz
     ·exact hz
    split at h
    ·rcases List.mem_append.1 h with h | h
     ·exact .inr (.inl (hp x h))
     ·exact .inl (List.mem_singleton.1 h)
    ·rcases dots_mem r _ false x h with h | h | h
     ·exact .inl h
     ·exact .inr (.inl (hp x h))
     ·exact .inr (.inr (List.mem_cons_of_mem _ h))
end Go.Proofs.YtknhacbfddggpaaGreatDoor
namespace Go.Proofs.YtknhacbfddggpaaGreatDoor
open Go.RowKit
structure AB where
 sch:List UInt8
 hasA:Bool
 auth:List UInt8
 path:List UInt8
 hasQ:Bool
 query:List UInt8
 hasF:Bool
 frag:List UInt8
def in33 (c:UInt8):Bool:=decide (33 ≤ c.toNat) && decide (c.toNat ≤ 126)
def letC (c:UInt8):Bool:=decide (97 ≤ (smallC c).toNat) && decide ((smallC c).toNat ≤ 122)
def schC (c:UInt8):Bool:=letC c || (decide (48 ≤ c.toNat) && decide (c.toNat ≤ 57)) || c == 43 || c == 45 || c == 46
def schS (l:List UInt8):Bool:=match l with | []=>false | c :: r=>letC c && r.all schC
def schOf (t:List UInt8):List UInt8 × List UInt8:=if (Lib.cut t [58]).2.2 && schS (Lib.cut t [58]).1 then ((Lib.cut t [58]).1,(Lib.cut t [58]).2.1) else ([],t)
def authOf (t:List UInt8):Bool × List UInt8 × List UInt8:=if t.take 2 = [47,47] then (true,(t.drop 2).takeWhile (· != 47),(t.drop 2).dropWhile (· != 47)) else (false,[],t)
def readA (s:List UInt8):Option AB:=
 if s.all in33 then
  let f:=Lib.cut s [35]
  let q:=Lib.cut f.1 [63]
  let c:=schOf q.1
  let a:=authOf c.2
  some { sch:=c.1,hasA:=a.1,auth:=a.2.1,path:=a.2.2,hasQ:=q.2.2,query:=q.2.1,hasF:=f.2.2,frag:=f.2.1 }
 else none
def writeA (a:AB):List UInt8:=(if a.sch = [] then [] else a.sch++[58])++(if a.hasA then 47 :: 47 :: a.auth else [])++a.path++(if a.hasQ then 63 :: a.query else [])++(if a.hasF then 35 :: a.frag else [])
theorem index_first1 (x t:List UInt8) (d:UInt8) (h:∀ c ∈ x,c ≠ d):Lib.cut (x++d :: t) [d] = (x,t,true):=by
 have hi:Lib.index (x++d :: t) [d] = (x.length:Nat):=by
  refine Lib.index_first (by simp) ?_ ?_
  ·unfold Lib.occAt
   rw [List.drop_left]
   simp
  ·intro j hj
   unfold Lib.occAt
   have e:(x++d :: t).drop j = x[j] :: (x.drop (j+1)++d :: t):=by
    rw [List.drop_append_of_le_length (by omega),List.drop_eq_getElem_cons hj]; rfl
   rw [e]
   have hne:(d == x[j]) = false:=by
    rw [beq_eq_false_iff_ne]
    exact fun e=>h x[j] (List.getElem_mem hj) e.symm
   simp [List.isPrefixOf,hne]
 unfold Lib.cut
 rw [hi,if_pos (by omega)]
 have e:((x.length:Nat):Int).toNat = x.length:=by omega
 have e2:(x++d :: t).drop (x.length+[d].length) = t:=by
  have:x++d :: t = (x++[d])++t:=by simp
  rw [this,← List.length_append]
  exact List.drop_left
 rw [e,e2,List.take_left]
theorem cut_none1 (x:List UInt8) (d:UInt8) (h:∀ c ∈ x,c ≠ d):Lib.cut x [d] = (x,[],false):=by
 have hi:Lib.index x [d] = -1:=by
  refine Lib.index_none fun j hj=>?_
  unfold Lib.occAt
  cases hd:x.drop j with
  | nil=>rfl
  | cons c r =>
   have hc:c ∈ x:=List.mem_of_mem_drop (by rw [hd]; exact List.mem_cons_self)
   have hne:(d == c) = false:=by
    rw [beq_eq_false_iff_ne]
    exact fun e=>h c hc e.symm
   simp [List.isPrefixOf,hne]
 unfold Lib.cut
 rw [hi,if_neg (by decide)]
theorem cut_glue (s:List UInt8) (d:UInt8):(∃ x y,s = x++d :: y∧(∀ c ∈ x,c ≠ d)∧Lib.cut s [d] = (x,y,true)) ∨ ((∀ c ∈ s,c ≠ d)∧Lib.cut s [d] = (s,[],false)):=by
 by_cases h:d ∈ s
 ·left
  obtain ⟨x,y,hs,hx⟩:=List.append_of_mem h |>.elim fun a ⟨b,hb⟩=>by
   have key:∀ s:List UInt8,d ∈ s → ∃ x y,s = x++d :: y∧∀ c ∈ x,c ≠ d:=by
    intro s
    induction s with
    | nil=>intro h; simp at h
    | cons c s ih =>
     intro h
     by_cases hc:c = d
     ·exact ⟨[],s,by rw [hc]; rfl,fun c hc=>absurd hc (by simp)⟩
     ·have:d ∈ s:=by
       rcases List.mem_cons.1 h with h | h
       ·exact absurd h.symm hc
       ·exact h
      obtain ⟨x,y,h1,h2⟩:=ih this
      refine ⟨c :: x,y,by rw [h1]; rfl,fun e he=>?_⟩
      rcases List.mem_cons.1 he with rfl | he
      ·exact hc
      ·exact h2 e he
   exact key s h
  exact ⟨x,y,hs,hx,by rw [hs]; exact index_first1 x y d hx⟩
 ·right
  have h':∀ c ∈ s,c ≠ d:=fun c hc e=>h (by rw [← e]; exact hc)
  exact ⟨h',cut_none1 s d h'⟩
theorem sch_glue (t:List UInt8):(schOf t = ([],t)) ∨ ∃ x y,t = x++58 :: y∧schOf t = (x,y)∧schS x = true∧∀ c ∈ x,c ≠ 58:=by
 unfold schOf
 rcases cut_glue t 58 with ⟨x,y,h1,h2,h3⟩ | ⟨_,h3⟩
 ·rw [h3]
  by_cases hs:schS x = true
  ·right
   refine ⟨x,y,h1,?_,hs,h2⟩
   simp [hs]
  ·left
   simp [hs]
 ·left
  rw [h3]
  simp
theorem auth_glue (t:List UInt8):((∀ q,t ≠ 47 :: 47 :: q)∧authOf t = (false,[],t)) ∨ ∃ x y,t = 47 :: 47 :: (x++y)∧authOf t = (true,x,y)∧(∀ c ∈ x,c ≠ 47)∧(y = [] ∨ ∃ z,y = 47 :: z):=by
 unfold authOf
 by_cases h:t.take 2 = [47,47]
 ·right
  rw [if_pos h]
  have ht:t = 47 :: 47 :: t.drop 2:=by
   have:=List.take_append_drop 2 t
   rw [h] at this
   exact this.symm
  refine ⟨(t.drop 2).takeWhile (· != 47),(t.drop 2).dropWhile (· != 47),?_,rfl,?_,?_⟩
  ·rw [List.takeWhile_append_dropWhile]; exact ht
  ·intro c hc
   have:=takeWhile_all (p:=fun c=>c != 47) (t.drop 2) c hc
   simpa using this
  ·cases hd:(t.drop 2).dropWhile (· != 47) with
   | nil=>exact .inl rfl
   | cons a b =>
    have:=List.head_dropWhile_not (fun x:UInt8=>x != 47) (l:=t.drop 2) (by rw [hd]; simp)
    simp only [hd,List.head_cons] at this
    have ha:a = 47:=by simpa using this
    exact .inr ⟨b,by rw [ha]⟩
 ·left
  rw [if_neg h]
  exact ⟨fun q e=>h (by rw [e]; rfl),rfl⟩
structure Fit0 (a:AB):Prop where
 bytes:∀ c,c ∈ a.sch ∨ c ∈ a.auth ∨ c ∈ a.path ∨ c ∈ a.query ∨ c ∈ a.frag → in33 c = true
 scheme:a.sch = [] ∨ schS a.sch = true
 auth1:∀ c ∈ a.auth,c ≠ 47∧c ≠ 63∧c ≠ 35
 path1:∀ c ∈ a.path,c ≠ 63∧c ≠ 35
 query1:∀ c ∈ a.query,c ≠ 35
 auth0:a.hasA = false → a.auth = []
 query0:a.hasQ = false → a.query = []
 frag0:a.hasF = false → a.frag = []
 path2:a.hasA = true → a.path = [] ∨ ∃ z,a.path = 47 :: z
 path3:a.hasA = false → ∀ q,a.path ≠ 47 :: 47 :: q
theorem schC_ne (c:UInt8) (h:schC c = true):c ≠ 58∧c ≠ 63∧c ≠ 35∧c ≠ 47∧in33 c = true∧schC (smallC c) = true:=by
 have key:∀ n:Fin 256,schC (UInt8.ofNat n.val) = true → UInt8.ofNat n.val ≠ 58∧UInt8.ofNat n.val ≠ 63∧UInt8.ofNat n.val ≠ 35∧UInt8.ofNat n.val ≠ 47∧in33 (UInt8.ofNat n.val) = true∧schC (smallC (UInt8.ofNat n.val)) = true:=by decide +kernel
 have:=key ⟨c.toNat,c.toNat_lt⟩
 simpa using this (by simpa using h)
theorem letC_sch (c:UInt8) (h:letC c = true):schC c = true∧letC (smallC c) = true:=by
 refine ⟨by unfold schC; rw [h]; rfl,?_⟩
 unfold letC at h ⊢
 rw [small_idem]
 exact h
theorem schS_all {l:List UInt8} (h:schS l = true):l ≠ []∧∀ c ∈ l,schC c = true:=by
 cases l with
 | nil=>cases h
 | cons c r =>
  simp only [schS,Bool.and_eq_true,List.all_eq_true] at h
  refine ⟨by simp,fun d hd=>?_⟩
  rcases List.mem_cons.1 hd with rfl | hd
  ·exact (letC_sch d h.1).1
  ·exact h.2 d hd
theorem read_write (s:List UInt8) (a:AB) (h:readA s = some a):writeA a = s∧Fit0 a:=by
 unfold readA at h
 split at h
 ·rename_i hall
  have hin:∀ c ∈ s,in33 c = true:=List.all_eq_true.1 hall
  obtain ⟨fx,fb,fy,hf,hs1,hf1,hf0⟩:∃ fx fb fy,Lib.cut s [35] = (fx,fy,fb)∧s = fx++(if fb then 35 :: fy else [])∧(∀ c ∈ fx,c ≠ 35)∧(fb = false → fy = []):=by
   rcases cut_glue s 35 with ⟨x,y,h1,h2,h3⟩ | ⟨h2,h3⟩
   ·exact ⟨x,true,y,h3,h1,h2,fun h=>by cases h⟩
   ·exact ⟨s,false,[],h3,by simp,h2,fun _=>rfl⟩
  obtain ⟨qx,qb,qy,hq,hs2,hq1,hq0⟩:∃ qx qb qy,Lib.cut fx [63] = (qx,qy,qb)∧fx = qx++(if qb then 63 :: qy else [])∧(∀ c ∈ qx,c ≠ 63)∧(qb = false → qy = []):=by
   rcases cut_glue fx 63 with ⟨x,y,h1,h2,h3⟩ | ⟨h2,h3⟩
   ·exact ⟨x,true,y,h3,h1,h2,fun h=>by cases h⟩
   ·exact ⟨fx,false,[],h3,by simp,h2,fun _=>rfl⟩
  obtain ⟨sx,sy,hc,hs3,hsch⟩:∃ sx sy,schOf qx = (sx,sy)∧qx = (if sx = [] then [] else sx++[58])++sy∧(sx = [] ∨ schS sx = true):=by
   rcases sch_glue qx with h3 | ⟨x,y,h1,h3,h4,_⟩
   ·exact ⟨[],qx,h3,by simp,.inl rfl⟩
   ·exact ⟨x,y,h3,by rw [if_neg (schS_all h4).1,h1]; simp,.inr h4⟩
  obtain ⟨ab,ax,ay,ha,hs4,ha0,ha1,ha2,ha3⟩:∃ ab ax ay,authOf sy = (ab,ax,ay)∧sy = (if ab then 47 :: 47 :: ax else [])++ay∧(ab = false → ax = [])∧(∀ c ∈ ax,c ≠ 47)∧(ab = true → ay = [] ∨ ∃ z,ay = 47 :: z)∧(ab = false → ∀ q,ay ≠ 47 :: 47 :: q):=by
   rcases auth_glue sy with ⟨h1,h2⟩ | ⟨x,y,h1,h2,h3,h4⟩
   ·exact ⟨false,[],sy,h2,by simp,fun _=>rfl,fun c hc=>absurd hc (by simp),fun h=>(by cases h),fun _=>h1⟩
   ·exact ⟨true,x,y,h2,by rw [h1]; simp,fun h=>(by cases h),h3,fun _=>h4,fun h=>by cases h⟩
  simp only [hf,hq,hc,ha,Option.some.injEq] at h
  subst h
  have hq2:∀ c ∈ qx,c ≠ 63∧c ≠ 35:=fun c hcx=>⟨hq1 c hcx,hf1 c (by rw [hs2]; exact List.mem_append_left _ hcx)⟩
  have hsy:∀ c ∈ sy,c ≠ 63∧c ≠ 35:=fun c hcx=>hq2 c (by rw [hs3]; exact List.mem_append_right _ hcx)
  refine ⟨?_,?_,hsch,?_,?_,?_,ha0,hq0,hf0,ha2,ha3⟩
  ·show (if sx = [] then [] else sx++[58])++(if ab = true then 47 :: 47 :: ax else [])++ay++(if qb = true then 63 :: qy else [])++(if fb = true then 35 :: fy else []) = s
   rw [hs1,hs2,hs3,hs4]
   simp only [List.append_assoc]
  ·intro c hcx
   refine hin c ?_
   rw [hs1,hs2,hs3,hs4]
   rcases hcx with h | h | h | h | h
   ·have h':c ∈ sx:=h
    have:sx ≠ []:=fun e=>by rw [e] at h'; simp at h'
    rw [if_neg this]
    simp [h']
   ·have h':c ∈ ax:=h
    have:ab = true:=by
     cases ab
     ·rw [ha0 rfl] at h'; simp at h'
     ·rfl
    rw [this]
    simp [h']
   ·have h':c ∈ ay:=h
    simp [h']
   ·have h':c ∈ qy:=h
    have:qb = true:=by
     cases qb
     ·rw [hq0 rfl] at h'; simp at h'
     ·rfl
    rw [this]
    simp [h']
   ·have h':c ∈ fy:=h
    have:fb = true:=by
     cases fb
     ·rw [hf0 rfl] at h'; simp at h'
     ·rfl
    rw [this]
    simp [h']
  ·intro c hcx
   have hcx':c ∈ ax:=hcx
   have hab:ab = true:=by
    cases ab
    ·rw [ha0 rfl] at hcx'; simp at hcx'
    ·rfl
   have:=hsy c (by rw [hs4,hab]; simp [hcx'])
   exact ⟨ha1 c hcx',this.1,this.2⟩
  ·intro c hcx
   exact hsy c (by rw [hs4]; exact List.mem_append_right _ hcx)
  ·intro c hcx
   have hcx':c ∈ qy:=hcx
   have hqb:qb = true:=by
    cases qb
    ·rw [hq0 rfl] at hcx'; simp at hcx'
    ·rfl
   exact hf1 c (by rw [hs2,hqb]; simp [hcx'])
 ·cases h
theorem write_read (a:AB) (h:Fit0 a) (hs:schS a.sch = true):readA (writeA a) = some a:=by
 obtain ⟨hne,hsc⟩:=schS_all hs
 obtain ⟨sch,hasA,auth,path,hasQ,query,hasF,frag⟩:=a
 simp only at hs hne hsc
 have hw:writeA ⟨sch,hasA,auth,path,hasQ,query,hasF,frag⟩ = ((sch++58 :: ((if hasA then 47 :: 47 :: auth else [])++path))++(if hasQ then 63 :: query else []))++(if hasF then 35 :: frag else []):=by
  simp [writeA,hne]
 have hbase:∀ c ∈ (if hasA then 47 :: 47 :: auth else [])++path,c ≠ 63∧c ≠ 35∧in33 c = true:=by
  intro c hc
  rcases List.mem_append.1 hc with hc | hc
  ·cases hasA
   ·simp at hc
   ·have:c = 47 ∨ c ∈ auth:=by
     simp at hc
     exact hc
    rcases this with rfl | hc
    ·exact ⟨by decide,by decide,by decide⟩
    ·exact ⟨(h.auth1 c hc).2.1,(h.auth1 c hc).2.2,h.bytes c (.inr (.inl hc))⟩
  ·exact ⟨(h.path1 c hc).1,(h.path1 c hc).2,h.bytes c (.inr (.inr (.inl hc)))⟩
 have hx1:∀ c ∈ sch++58 :: ((if hasA then 47 :: 47 :: auth else [])++path),c ≠ 63∧c ≠ 35∧in33 c = true:=by
  intro c hc
  rcases List.mem_append.1 hc with hc | hc
  ·have:=schC_ne c (hsc c hc)
   exact ⟨this.2.1,this.2.2.1,this.2.2.2.2.1⟩
  ·rcases List.mem_cons.1 hc with rfl | hc
   ·exact ⟨by decide,by decide,by decide⟩
   ·exact hbase c hc
 have hx2:∀ c ∈ (sch++58 :: ((if hasA then 47 :: 47 :: auth else [])++path))++(if hasQ then 63 :: query else []),c ≠ 35∧in33 c = true:=by
  intro c hc
  rcases List.mem_append.1 hc with hc | hc
  ·exact ⟨(hx1 c hc).2.1,(hx1 c hc).2.2⟩
  ·cases hasQ
   ·simp at hc
   ·rcases List.mem_cons.1 hc with rfl | hc
    ·exact ⟨by decide,by decide⟩
    ·exact ⟨h.query1 c hc,h.bytes c (.inr (.inr (.inr (.inl hc))))⟩
 have hf:Lib.cut (writeA ⟨sch,hasA,auth,path,hasQ,query,hasF,frag⟩) [35] = ((sch++58 :: ((if hasA then 47 :: 47 :: auth else [])++path))++(if hasQ then 63 :: query else []),frag,hasF):=by
  rw [hw]
  cases hasF
  ·have:frag = []:=h.frag0 rfl
   subst this
   simp only [Bool.false_eq_true,if_false,List.append_nil]
   exact cut_none1 _ 35 fun c hc=>(hx2 c hc).1
  ·exact index_first1 _ frag 35 fun c hc=>(hx2 c hc).1
 have hq:Lib.cut ((sch++58 :: ((if hasA then 47 :: 47 :: auth else [])++path))++(if hasQ then 63 :: query else [])) [63] = (sch++58 :: ((if hasA then 47 :: 47 :: auth else [])++path),query,hasQ):=by
  cases hasQ
  ·have:query = []:=h.query0 rfl
   subst this
   simp only [Bool.false_eq_true,if_false,List.append_nil]
   exact cut_none1 _ 63 fun c hc=>(hx1 c hc).1
  ·exact index_first1 _ query 63 fun c hc=>(hx1 c hc).1
 have hc:schOf (sch++58 :: ((if hasA then 47 :: 47 :: auth else [])++path)) = (sch,(if hasA then 47 :: 47 :: auth else [])++path):=by
  unfold schOf
  rw [index_first1 sch _ 58 fun c hc=>(schC_ne c (hsc c hc)).1]
  simp [hs]
 have ha:authOf ((if hasA then 47 :: 47 :: auth else [])++path) = (hasA,auth,path):=by
  cases hasA
  ·have:auth = []:=h.auth0 rfl
   subst this
   simp only [Bool.false_eq_true,if_false,List.nil_append]
   rcases auth_glue path with ⟨_,e⟩ | ⟨x,y,e,_⟩
   ·exact e
   ·exact absurd e (h.path3 rfl _)
  ·have hp:path.head?.all (fun c=>!(c != 47)) = true:=by
    rcases h.path2 rfl with e | ⟨z,e⟩
    ·simp only at e; rw [e]; rfl
    ·simp only at e; rw [e]; rfl
   have hau:∀ c ∈ auth,(c != 47) = true:=fun c hc=>by simpa using (h.auth1 c hc).1
   obtain ⟨i1,i2⟩:=takeWhile_app (p:=fun c=>c != 47) auth path hau hp
   unfold authOf
   rw [if_pos (by simp)]
   show (true,(auth++path).takeWhile (· != 47),(auth++path).dropWhile (· != 47)) = _
   rw [i1,i2]
 have hall:(writeA ⟨sch,hasA,auth,path,hasQ,query,hasF,frag⟩).all in33 = true:=by
  rw [hw,List.all_eq_true]
  intro c hc
  rcases List.mem_append.1 hc with hc | hc
  ·exact (hx2 c hc).2
  ·cases hasF
   ·simp at hc
   ·rcases List.mem_cons.1 hc with rfl | hc
    ·decide
    ·exact h.bytes c (.inr (.inr (.inr (.inr hc))))
 unfold readA
 rw [if_pos hall]
 simp only [hf,hq,hc,ha]
def dirS (p:List UInt8):List UInt8:=(p.reverse.dropWhile (· != 47)).reverse
def dirA (b:AB):List UInt8:=if b.hasA = true∧b.path = [] then [47] else dirS b.path
def resA (b a:AB):AB:=
 if a.sch ≠ [] ∨ a.hasA = true then { a with sch:=if a.sch = [] then b.sch else a.sch,path:=dotsS a.path }
 else if a.path = [] then (if a.hasQ then { b with hasQ:=a.hasQ,query:=a.query,hasF:=a.hasF,frag:=a.frag } else { b with hasF:=a.hasF,frag:=a.frag })
 else { b with hasQ:=a.hasQ,query:=a.query,hasF:=a.hasF,frag:=a.frag,path:=dotsS (if a.path.head? = some 47 then a.path else dirA b++a.path) }
def wholeA (a:AB):AB:={ sch:=smallS a.sch,hasA:=a.hasA,auth:=smallS a.auth,path:=a.path,hasQ:=a.hasQ,query:=a.query,hasF:=false,frag:=[] }
end Go.Proofs.YtknhacbfddggpaaGreatDoor
