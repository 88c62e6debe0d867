import Derived.Test.YtknhacbfddggpaaGreatDoorZ4
import Derived.Test.YtknhacbfddggpaaGreatDoorZ7
import Derived.Lib.IndexMore
namespace Go.Proofs.YtknhacbfddggpaaGreatDoor
open Go.RowKit
def signs:List (List UInt8 × UInt8):=[([38,97,109,112,59],38),([38,113,117,111,116,59],34),([38,35,51,57,59],39),([38,108,116,59],60),([38,103,116,59],62)]
def unescF:Nat → List UInt8 → List UInt8
 | 0,_=>[]
 | n+1,s=>match s with
  | []=>[]
  | c :: r=>match signs.find? fun w=>w.1.isPrefixOf (smallS (c :: r)) with
   | some w=>w.2 :: unescF n ((c :: r).drop w.1.length)
   | none=>c :: unescF n r
def unescS (s:List UInt8):List UInt8:=unescF s.length s
def escW (c:UInt8):List UInt8:=if c = 38 then [38,97,109,112,59] else if c = 34 then [38,113,117,111,116,59] else if c = 39 then [38,35,51,57,59] else if c = 60 then [38,108,116,59] else if c = 62 then [38,103,116,59] else [c]
def escS (s:List UInt8):List UInt8:=s.flatMap escW
theorem escW_ne (c:UInt8):escW c ≠ []:=by
 unfold escW
 repeat' split
 all_goals simp
theorem escW_plain (c d:UInt8) (h:d ∈ escW c):d ≠ 34∧d ≠ 39∧d ≠ 60∧d ≠ 62:=by
 have key:∀ n:Fin 256,∀ d ∈ escW (UInt8.ofNat n.val),d ≠ 34∧d ≠ 39∧d ≠ 60∧d ≠ 62:=by decide +kernel
 have:=key ⟨c.toNat,c.toNat_lt⟩
 have e:UInt8.ofNat c.toNat = c:=by simp
 simp only [e] at this
 exact this d h
theorem escS_plain (s:List UInt8):∀ d ∈ escS s,d ≠ 34∧d ≠ 39∧d ≠ 60∧d ≠ 62:=by
 intro d hd
 obtain ⟨c,_,hc⟩:=List.mem_flatMap.1 hd
 exact escW_plain c d hc
theorem small_38 (c:UInt8) (h:smallC c = 38):c = 38:=by
 have key:∀ n:Fin 256,smallC (UInt8.ofNat n.val) = 38 → UInt8.ofNat n.val = 38:=by decide +kernel
 have:=key ⟨c.toNat,c.toNat_lt⟩
 have e:UInt8.ofNat c.toNat = c:=by simp
 simp only [e] at this
 exact this h
theorem find_other (c:UInt8) (r:List UInt8) (h:c ≠ 38):(signs.find? fun w=>w.1.isPrefixOf (smallS (c :: r))) = none:=by
 have hb:(38 == smallC c) = false:=by
  rw [beq_eq_false_iff_ne]
  exact fun e=>h (small_38 c e.symm)
 have e:smallS (c :: r) = smallC c :: smallS r:=rfl
 rw [e]
 simp [signs,List.isPrefixOf,hb]
theorem unesc_esc (s:List UInt8):∀ n,(escS s).length ≤ n → unescF n (escS s) = s:=by
 induction s with
 | nil =>
  intro n _
  cases n <;> rfl
 | cons c s ih =>
  intro n hn
  have e:escS (c :: s) = escW c++escS s:=rfl
  have hl:1 ≤ (escW c).length:=List.length_pos_iff.2 (escW_ne c)
  rw [e,List.length_append] at hn
  obtain ⟨m,rfl⟩:∃ m,n = m+1:=⟨n - 1,by omega⟩
  have hm:(escS s).length ≤ m:=by omega
  have hi:=ih m hm
  rw [e]
  by_cases h1:c = 38
  ·subst h1
   show unescF (m+1) (38 :: 97 :: 109 :: 112 :: 59 :: escS s) = _
   have hf:(signs.find? fun w=>w.1.isPrefixOf (smallS (38 :: 97 :: 109 :: 112 :: 59 :: escS s))) = some ([38,97,109,112,59],38):=by rw [show smallS (38 :: 97 :: 109 :: 112 :: 59 :: escS s) = 38 :: 97 :: 109 :: 112 :: 59 :: smallS (escS s) from rfl]; simp [signs,List.isPrefixOf]
   unfold unescF
   simp only [hf]
   show (38:UInt8) :: unescF m (escS s) = _
   rw [hi]
  ·by_cases h2:c = 34
   ·subst h2
    show unescF (m+1) (38 :: 113 :: 117 :: 111 :: 116 :: 59 :: escS s) = _
    have hf:(signs.find? fun w=>w.1.isPrefixOf (smallS (38 :: 113 :: 117 :: 111 :: 116 :: 59 :: escS s))) = some ([38,113,117,111,116,59],34):=by rw [show smallS (38 :: 113 :: 117 :: 111 :: 116 :: 59 :: escS s) = 38 :: 113 :: 117 :: 111 :: 116 :: 59 :: smallS (escS s) from rfl]; simp [signs,List.isPrefixOf]
    unfold unescF
    simp only [hf]
    show (34:UInt8) :: unescF m (escS s) = _
    rw [hi]
   ·by_cases h3:c = 39
    ·subst h3
     show unescF (m+1) (38 :: 35 :: 51 :: 57 :: 59 :: escS s) = _
     have hf:(signs.find? fun w=>w.1.isPrefixOf (smallS (38 :: 35 :: 51 :: 57 :: 59 :: escS s))) = some ([38,35,51,57,59],39):=by rw [show smallS (38 :: 35 :: 51 :: 57 :: 59 :: escS s) = 38 :: 35 :: 51 :: 57 :: 59 :: smallS (escS s) from rfl]; simp [signs,List.isPrefixOf]
     unfold unescF
     simp only [hf]
     show (39:UInt8) :: unescF m (escS s) = _
     rw [hi]
    ·by_cases h4:c = 60
     ·subst h4
      show unescF (m+1) (38 :: 108 :: 116 :: 59 :: escS s) = _
      have hf:(signs.find? fun w=>w.1.isPrefixOf (smallS (38 :: 108 :: 116 :: 59 :: escS s))) = some ([38,108,116,59],60):=by rw [show smallS (38 :: 108 :: 116 :: 59 :: escS s) = 38 :: 108 :: 116 :: 59 :: smallS (escS s) from rfl]; simp [signs,List.isPrefixOf]
      unfold unescF
      simp only [hf]
      show (60:UInt8) :: unescF m (escS s) = _
      rw [hi]
     ·by_cases h5:c = 62
      ·subst h5
       show unescF (m+1) (38 :: 103 :: 116 :: 59 :: escS s) = _
       have hf:(signs.find? fun w=>w.1.isPrefixOf (smallS (38 :: 103 :: 116 :: 59 :: escS s))) = some ([38,103,116,59],62):=by rw [show smallS (38 :: 103 :: 116 :: 59 :: escS s) = 38 :: 103 :: 116 :: 59 :: smallS (escS s) from rfl]; simp [signs,List.isPrefixOf]
       unfold unescF
       simp only [hf]
       show (62:UInt8) :: unescF m (escS s) = _
       rw [hi]
      ·have ec:escW c = [c]:=by
        unfold escW
        rw [if_neg h1,if_neg h2,if_neg h3,if_neg h4,if_neg h5]
       rw [ec]
       show unescF (m+1) (c :: escS s) = _
       unfold unescF
       simp only [find_other c (escS s) h1]
       rw [hi]
theorem unescS_esc (s:List UInt8):unescS (escS s) = s:=unesc_esc s _ (Nat.le_refl _)
end Go.Proofs.YtknhacbfddggpaaGreatDoor
namespace Go.Proofs.YtknhacbfddggpaaGreatDoor
open Go.RowKit
abbrev Md:=Option (Bool × List UInt8)
def gapC (c:UInt8):Bool:=c == 32 || c == 9 || c == 13 || c == 10
def alphC (c:UInt8):Bool:=decide (97 ≤ (smallC c).toNat) && decide ((smallC c).toNat ≤ 122)
def alnumC (c:UInt8):Bool:=alphC c || (decide (48 ≤ c.toNat) && decide (c.toNat ≤ 57))
def attrC (c:UInt8):Bool:=!gapC c && c != 47 && c != 61 && c != 62
def bareC (c:UInt8):Bool:=!gapC c && c != 62
def skipC (c:UInt8):Bool:=gapC c || c == 47
def findL (sub:List UInt8):List UInt8 → Option (List UInt8 × List UInt8)
 | []=>none
 | c :: s=>if sub.isPrefixOf (c :: s) then some ([],c :: s) else (findL sub s).map fun q=>(c :: q.1,q.2)
def findN (sub:List UInt8):List UInt8 → Option (List UInt8 × List UInt8)
 | []=>none
 | c :: s=>if sub.isPrefixOf (smallS (c :: s)) then some ([],c :: s) else (findN sub s).map fun q=>(c :: q.1,q.2)
theorem prefix_local (sub x r r':List UInt8) (h:sub.length ≤ x.length):sub.isPrefixOf (x++r) = sub.isPrefixOf (x++r'):=by
 induction sub generalizing x with
 | nil=>simp
 | cons c sub ih =>
  cases x with
  | nil=>simp at h
  | cons d x=>simp only [List.cons_append,List.isPrefixOf]; rw [ih x (by simpa using h)]
theorem findL_some (sub s a b:List UInt8) (h:findL sub s = some (a,b)):s = a++b∧sub.isPrefixOf b = true:=by
 induction s generalizing a with
 | nil=>cases h
 | cons c s ih =>
  unfold findL at h
  split at h
  ·rename_i hp
   simp only [Option.some.injEq,Prod.mk.injEq] at h
   obtain ⟨rfl,rfl⟩:=h
   exact ⟨rfl,hp⟩
  ·obtain ⟨q,hq1,hq2⟩:=Option.map_eq_some_iff.1 h
   simp only [Prod.mk.injEq] at hq2
   obtain ⟨rfl,rfl⟩:=hq2
   obtain ⟨i1,i2⟩:=ih q.1 hq1
   exact ⟨by rw [List.cons_append,← i1],i2⟩
theorem findL_local (sub:List UInt8) (h0:sub ≠ []) (r r':List UInt8):∀ a:List UInt8,findL sub (a++(sub++r)) = some (a,sub++r) → findL sub (a++(sub++r')) = some (a,sub++r')
 | [],_=>by
  cases hs:sub with
  | nil=>exact absurd hs h0
  | cons c t =>
   show findL (c :: t) (c :: (t++r')) = _
   unfold findL
   have:(c :: t).isPrefixOf (c :: (t++r')) = true:=List.isPrefixOf_iff_prefix.2 ⟨r',rfl⟩
   rw [if_pos this]; rfl
 | c :: a,h=>by
  have e:∀ z:List UInt8,c :: a++(sub++z) = (c :: a++sub)++z:=fun z=>by simp
  have hloc:=prefix_local sub (c :: a++sub) r r' (by simp; omega)
  rw [← e,← e] at hloc
  show findL sub (c :: (a++(sub++r'))) = _
  have h':findL sub (c :: (a++(sub++r))) = some (c :: a,sub++r):=h
  unfold findL at h' ⊢
  have hl2:sub.isPrefixOf (c :: (a++(sub++r))) = sub.isPrefixOf (c :: (a++(sub++r'))):=hloc
  rw [← hl2]
  split at h'
  ·simp at h'
  ·rename_i hn
   rw [if_neg hn]
   obtain ⟨q,hq1,hq2⟩:=Option.map_eq_some_iff.1 h'
   simp only [Prod.mk.injEq,List.cons.injEq,true_and] at hq2
   obtain ⟨rfl,hq3⟩:=hq2
   have hq4:findL sub (q.1++(sub++r)) = some (q.1,sub++r):=by rw [hq1,← hq3]
   rw [findL_local sub h0 r r' q.1 hq4]; rfl
theorem findL_one (d:UInt8) (s a b:List UInt8) (h:findL [d] s = some (a,b)):∃ r,b = d :: r:=by
 have:=(findL_some [d] s a b h).2
 cases b with
 | nil=>simp at this
 | cons c r =>
  have:d = c:=by simpa [List.isPrefixOf] using this
  exact ⟨r,by rw [this]⟩
theorem findL_oneLocal (d:UInt8) (a r r':List UInt8) (h:findL [d] (a++d :: r) = some (a,d :: r)):findL [d] (a++d :: r') = some (a,d :: r'):=findL_local [d] (by simp) r r' a h
theorem findL_pre (sub s a b:List UInt8) (h:findL sub s = some (a,b)):∃ r,b = sub++r:=by
 have:=(findL_some sub s a b h).2
 obtain ⟨t,ht⟩:=List.isPrefixOf_iff_prefix.1 this
 exact ⟨t,ht.symm⟩
def skipNames:List (List UInt8):=[[115,99,114,105,112,116],[115,116,121,108,101],[116,101,120,116,97,114,101,97],[116,105,116,108,101]]
def linkNames:List (List UInt8):=[[115,114,99],[104,114,101,102],[98,97,99,107,103,114,111,117,110,100]]
abbrev Out:=List UInt8 × Option (List UInt8 × Bool) × Md × List UInt8
def stepTop (s:List UInt8):Option Out:=
 match findL [60] s with
 | none=>none
 | some (u,r0) =>
  match r0.drop 1 with
  | []=>none
  | c :: r =>
   if [33,45,45].isPrefixOf (c :: r) then (findL [45,45,62] ((c :: r).drop 3)).map fun q=>(u++[60,33,45,45]++q.1++[45,45,62],none,none,q.2.drop 3)
   else if c = 47 ∨ c = 33 ∨ c = 63 then (findL [62] (c :: r)).map fun q=>(u++[60]++q.1++[62],none,none,q.2.drop 1)
   else if alphC c then some (u++[60]++(c :: r).takeWhile alnumC,none,some (false,smallS ((c :: r).takeWhile alnumC)),(c :: r).dropWhile alnumC)
   else some (u++[60],none,none,c :: r)
def stepSkip (n s:List UInt8):Option Out:=(findN (60 :: 47 :: n) s).map fun q=>(q.1,none,none,q.2)
def stepVal (n nm pre t:List UInt8):Option Out:=
 match t with
 | []=>none
 | q :: t' =>
  if q = 34 ∨ q = 39 then (findL [q] t').map fun f=>if linkNames.contains nm then (pre++[q],some (f.1,true),some (false,n),f.2.drop 1) else (pre++[q]++f.1++[q],none,some (false,n),f.2.drop 1)
  else if (t.dropWhile bareC) = [] then none
  else if linkNames.contains nm then some (pre,some (t.takeWhile bareC,false),some (false,n),t.dropWhile bareC)
  else some (pre++t.takeWhile bareC,none,some (false,n),t.dropWhile bareC)
def stepTag (n s:List UInt8):Option Out:=
 match s.dropWhile skipC with
 | []=>none
 | c :: t =>
  if c = 62 then some (s.takeWhile skipC++[62],none,if skipNames.contains n then some (true,n) else none,t)
  else if t.dropWhile attrC = [] then none
  else if ((t.dropWhile attrC).dropWhile gapC).head? = some 61 then
   stepVal n (smallS (c :: t.takeWhile attrC)) (s.takeWhile skipC++c :: t.takeWhile attrC++(t.dropWhile attrC).takeWhile gapC++[61]++(((t.dropWhile attrC).dropWhile gapC).drop 1).takeWhile gapC) ((((t.dropWhile attrC).dropWhile gapC).drop 1).dropWhile gapC)
  else some (s.takeWhile skipC++c :: t.takeWhile attrC++(t.dropWhile attrC).takeWhile gapC,none,some (false,n),(t.dropWhile attrC).dropWhile gapC)
def stepG (m:Md) (s:List UInt8):Option Out:=match m with | none=>stepTop s | some (true,n)=>stepSkip n s | some (false,n)=>stepTag n s
def Agree (m:Md) (r r':List UInt8):Prop:=r'.head? = r.head?∧(m = none → ∀ t,r = 60 :: 47 :: t → r'.takeWhile (· != 62) = r.takeWhile (· != 62))
theorem top_local (s c r r':List UInt8) (e:Option (List UInt8 × Bool)) (m:Md) (h:stepTop s = some (c,e,m,r)) (ha:r'.head? = r.head?):e = none∧s = c++r∧c ≠ []∧stepTop (c++r') = some (c,none,m,r'):=by
 unfold stepTop at h
 cases hf:findL [60] s with
 | none=>rw [hf] at h; cases h
 | some ur =>
  obtain ⟨u,r0⟩:=ur
  obtain ⟨r1,rfl⟩:=findL_one 60 s u r0 hf
  have hs:=(findL_some _ _ _ _ hf).1
  have hf':∀ z,findL [60] (u++60 :: z) = some (u,60 :: z):=fun z=>findL_oneLocal 60 u r1 z (by rw [← hs]; exact hf)
  rw [hf] at h
  simp only [List.drop_succ_cons,List.drop_zero] at h
  cases r1 with
  | nil=>cases h
  | cons d t =>
   simp only at h
   split at h
   ·rename_i hp
    obtain ⟨q,hq,heq⟩:=Option.map_eq_some_iff.1 h
    simp only [Prod.mk.injEq] at heq
    obtain ⟨rfl,rfl,rfl,rfl⟩:=heq
    obtain ⟨p3,hp3⟩:=List.isPrefixOf_iff_prefix.1 hp
    simp only [List.cons_append,List.nil_append,List.cons.injEq] at hp3
    obtain ⟨rfl,rfl⟩:=hp3
    have hq:findL [45,45,62] p3 = some (q.1,q.2):=hq
    obtain ⟨x,hx⟩:=findL_pre _ _ q.1 q.2 hq
    have hq':=(findL_some _ _ q.1 q.2 hq).1
    rw [hx] at hq hq' ⊢
    have hxd:([45,45,62]++x).drop 3 = x:=rfl
    rw [hxd]
    rw [hq'] at hq
    refine ⟨rfl,?_,by simp,?_⟩
    ·rw [hs,hq']; simp
    ·have hl:=findL_local [45,45,62] (by simp) x r' q.1 hq
     have e1:u++[60,33,45,45]++q.1++[45,45,62]++r' = u++60 :: (33 :: 45 :: 45 :: (q.1++([45,45,62]++r'))):=by simp
     unfold stepTop
     rw [e1,hf']
     simp only [List.drop_succ_cons,List.drop_zero]
     have hpp:[33,45,45].isPrefixOf (33 :: 45 :: 45 :: (q.1++([45,45,62]++r'))) = true:=List.isPrefixOf_iff_prefix.2 ⟨_,rfl⟩
     rw [if_pos hpp,hl]
     rfl
   ·rename_i hp
    split at h
    ·rename_i hc
     obtain ⟨q,hq,heq⟩:=Option.map_eq_some_iff.1 h
     simp only [Prod.mk.injEq] at heq
     obtain ⟨rfl,rfl,rfl,rfl⟩:=heq
     have hq:findL [62] (d :: t) = some (q.1,q.2):=hq
     obtain ⟨x,hx⟩:=findL_one 62 _ q.1 q.2 hq
     have hq':=(findL_some _ _ q.1 q.2 hq).1
     rw [hx] at hq hq' ⊢
     have hne:q.1 ≠ []:=by
      intro e0
      rw [e0] at hq'
      simp only [List.nil_append,List.cons.injEq] at hq'
      rcases hc with hc | hc | hc <;> rw [hc] at hq' <;> exact absurd hq'.1 (by decide)
     obtain ⟨d',q1,hq1⟩:∃ d' q1,q.1 = d' :: q1:=by
      cases hh:q.1 with
      | nil=>exact absurd hh hne
      | cons a b=>exact ⟨a,b,rfl⟩
     have hd:d' = d:=by
      rw [hq1] at hq'
      simp only [List.cons_append,List.cons.injEq] at hq'
      exact hq'.1.symm
     subst hd
     rw [hq'] at hq
     refine ⟨rfl,?_,by simp,?_⟩
     ·rw [hs,hq']; simp
     ·have hl:=findL_oneLocal 62 q.1 x r' hq
      have e1:u++[60]++q.1++[62]++r' = u++60 :: (d' :: (q1++62 :: r')):=by rw [hq1]; simp
      have e2:q.1++62 :: r' = d' :: (q1++62 :: r'):=by rw [hq1]; rfl
      unfold stepTop
      rw [e1,hf']
      simp only [List.drop_succ_cons,List.drop_zero]
      rw [if_neg,if_pos hc,← e2,hl]
      ·rfl
      ·intro hpp
       apply hp
       have ht:d' :: t = (d' :: q1)++62 :: x:=by rw [hq',hq1]
       rw [ht]
       obtain ⟨z,hz⟩:=List.isPrefixOf_iff_prefix.1 hpp
       -- the first three signs lie ahead of the >
       cases q1 with
       | nil =>
        simp only [List.nil_append,List.cons_append,List.cons.injEq] at hz
        exact absurd hz.2.1 (by decide)
       | cons a q1 =>
        cases q1 with
        | nil =>
         simp only [List.nil_append,List.cons_append,List.cons.injEq] at hz
         exact absurd hz.2.2.1 (by decide)
        | cons b q1 =>
         simp only [List.cons_append,List.nil_append,List.cons.injEq] at hz
         obtain ⟨rfl,rfl,rfl,_⟩:=hz
         exact List.isPrefixOf_iff_prefix.2 ⟨q1++62 :: x,rfl⟩
    ·rename_i hc
     split at h
     ·rename_i hal
      simp only [Option.some.injEq,Prod.mk.injEq] at h
      obtain ⟨rfl,rfl,rfl,rfl⟩:=h
      have hd:alnumC d = true:=by unfold alnumC; rw [hal]; rfl
      have hsp:=List.takeWhile_append_dropWhile (p:=alnumC) (l:=d :: t)
      have hnm:(d :: t).takeWhile alnumC = d :: t.takeWhile alnumC:=by rw [List.takeWhile_cons,hd]; rfl
      have hhead:((d :: t).dropWhile alnumC).head?.all (fun c=>!alnumC c) = true:=by
       cases hw:(d :: t).dropWhile alnumC with
       | nil=>rfl
       | cons a b =>
        have:=List.head_dropWhile_not alnumC (l:=d :: t) (by rw [hw]; simp)
        simp only [hw,List.head_cons] at this
        simp [this]
      refine ⟨rfl,?_,by simp,?_⟩
      ·rw [hs]; simp only [List.append_assoc,List.cons_append,List.nil_append]; rw [hsp]
      ·obtain ⟨i1,i2⟩:=takeWhile_app (p:=alnumC) ((d :: t).takeWhile alnumC) r' (takeWhile_all _) (by rw [ha]; exact hhead)
       have e1:u++[60]++(d :: t).takeWhile alnumC++r' = u++60 :: ((d :: t).takeWhile alnumC++r'):=by simp
       unfold stepTop
       rw [e1,hf']
       simp only [List.drop_succ_cons,List.drop_zero]
       have e2:(d :: t).takeWhile alnumC++r' = d :: (t.takeWhile alnumC++r'):=by rw [hnm]; rfl
       rw [e2]
       simp only
       rw [← e2,if_neg,if_neg hc,if_pos hal,i1,i2]
       rw [e2]
       intro hpp
       obtain ⟨z,hz⟩:=List.isPrefixOf_iff_prefix.1 hpp
       simp only [List.cons_append,List.nil_append,List.cons.injEq] at hz
       exact hc (.inr (.inl hz.1.symm))
     ·rename_i hal
      simp only [Option.some.injEq,Prod.mk.injEq] at h
      obtain ⟨rfl,rfl,rfl,rfl⟩:=h
      refine ⟨rfl,by rw [hs]; simp,by simp,?_⟩
      cases r' with
      | nil=>simp at ha
      | cons d2 t2 =>
       have hd2:d2 = d:=by simpa using ha
       subst hd2
       have e1:u++[60]++d2 :: t2 = u++60 :: (d2 :: t2):=by simp
       unfold stepTop
       rw [e1,hf']
       simp only [List.drop_succ_cons,List.drop_zero]
       rw [if_neg,if_neg hc,if_neg hal]
       intro hpp
       obtain ⟨z,hz⟩:=List.isPrefixOf_iff_prefix.1 hpp
       simp only [List.cons_append,List.nil_append,List.cons.injEq] at hz
       exact hc (.inr (.inl hz.1.symm))
end Go.Proofs.YtknhacbfddggpaaGreatDoor
namespace Go.Proofs.YtknhacbfddggpaaGreatDoor
open Go.RowKit
theorem dropWhile_head {p:UInt8 → Bool} (l:List UInt8):(l.dropWhile p).head?.all (fun c=>!p c) = true:=by
 cases hw:l.dropWhile p with
 | nil=>rfl
 | cons a b =>
  have:=List.head_dropWhile_not p (l:=l) (by rw [hw]; simp)
  simp only [hw,List.head_cons] at this
  simp [this]
theorem gap_attr (c:UInt8) (h:gapC c = true):attrC c = false:=by unfold attrC; rw [h]; rfl
theorem gaps_head (g z:List UInt8) (hg:∀ c ∈ g,gapC c = true) (hz:g = [] → z.head?.all (fun c=>!attrC c) = true):(g++z).head?.all (fun c=>!attrC c) = true:=by
 cases g with
 | nil=>exact hz rfl
 | cons c g=>simp [gap_attr c (hg c (by simp))]
theorem tag_close (n a t:List UInt8) (ha:∀ c ∈ a,skipC c = true):stepTag n (a++62 :: t) = some (a++[62],none,if skipNames.contains n then some (true,n) else none,t):=by
 obtain ⟨i1,i2⟩:=takeWhile_app (p:=skipC) a (62 :: t) ha (by simp; decide)
 unfold stepTag
 rw [i2,i1]
 simp
theorem tag_name (n a b g z:List UInt8) (c:UInt8) (ha:∀ c ∈ a,skipC c = true) (hc:skipC c = false) (hc2:c ≠ 62) (hb:∀ c ∈ b,attrC c = true) (hg:∀ c ∈ g,gapC c = true)
  (h1:(g++z).head?.all (fun c=>!attrC c) = true) (h2:g++z ≠ []) (h3:z.head?.all (fun c=>!gapC c) = true) (h4:z.head? ≠ some 61):stepTag n (a++c :: (b++(g++z))) = some (a++c :: b++g,none,some (false,n),z):=by
 obtain ⟨i1,i2⟩:=takeWhile_app (p:=skipC) a (c :: (b++(g++z))) ha (by simp [hc])
 obtain ⟨j1,j2⟩:=takeWhile_app (p:=attrC) b (g++z) hb h1
 obtain ⟨k1,k2⟩:=takeWhile_app (p:=gapC) g z hg h3
 unfold stepTag
 rw [i2,i1]
 simp only
 rw [if_neg hc2,j2,j1,if_neg h2,k2,k1,if_neg h4]
theorem tag_val (n a b g h w:List UInt8) (c:UInt8) (ha:∀ c ∈ a,skipC c = true) (hc:skipC c = false) (hc2:c ≠ 62) (hb:∀ c ∈ b,attrC c = true) (hg:∀ c ∈ g,gapC c = true) (hh:∀ c ∈ h,gapC c = true)
  (hw:w.head?.all (fun c=>!gapC c) = true):stepTag n (a++c :: (b++(g++61 :: (h++w)))) = stepVal n (smallS (c :: b)) (a++c :: b++g++[61]++h) w:=by
 obtain ⟨i1,i2⟩:=takeWhile_app (p:=skipC) a (c :: (b++(g++61 :: (h++w)))) ha (by simp [hc])
 obtain ⟨j1,j2⟩:=takeWhile_app (p:=attrC) b (g++61 :: (h++w)) hb (gaps_head g _ hg fun _=>by simp; decide)
 obtain ⟨k1,k2⟩:=takeWhile_app (p:=gapC) g (61 :: (h++w)) hg (by simp; decide)
 obtain ⟨l1,l2⟩:=takeWhile_app (p:=gapC) h w hh hw
 unfold stepTag
 rw [i2,i1]
 simp only
 rw [if_neg hc2,j2,j1,if_neg (by simp),k2,k1,if_pos (show (61 :: (h++w)).head? = some 61 from rfl)]
 simp only [List.drop_succ_cons,List.drop_zero]
 rw [l1,l2]
theorem tag_forms (n s:List UInt8) (o:Out) (h:stepTag n s = some o) :
  (∃ a t,s = a++62 :: t∧(∀ c ∈ a,skipC c = true))
  ∨ (∃ a b g z,∃ c:UInt8,s = a++c :: (b++(g++z))∧(∀ c ∈ a,skipC c = true)∧skipC c = false∧c ≠ 62∧(∀ c ∈ b,attrC c = true)∧(∀ c ∈ g,gapC c = true)∧(g++z).head?.all (fun c=>!attrC c) = true∧g++z ≠ []∧z.head?.all (fun c=>!gapC c) = true∧z.head? ≠ some 61)
  ∨ (∃ a b g h w,∃ c:UInt8,s = a++c :: (b++(g++61 :: (h++w)))∧(∀ c ∈ a,skipC c = true)∧skipC c = false∧c ≠ 62∧(∀ c ∈ b,attrC c = true)∧(∀ c ∈ g,gapC c = true)∧(∀ c ∈ h,gapC c = true)∧w.head?.all (fun c=>!gapC c) = true):=by
 have hs:=List.takeWhile_append_dropWhile (p:=skipC) (l:=s)
 have hd:=dropWhile_head (p:=skipC) s
 unfold stepTag at h
 cases hx:s.dropWhile skipC with
 | nil=>rw [hx] at h; cases h
 | cons c t =>
  rw [hx] at h hs hd
  simp only at h
  have hc:skipC c = false:=by simpa using hd
  by_cases h62:c = 62
  ·subst h62
   exact .inl ⟨_,t,hs.symm,takeWhile_all _⟩
  ·rw [if_neg h62] at h
   have ht:=List.takeWhile_append_dropWhile (p:=attrC) (l:=t)
   have htd:=dropWhile_head (p:=attrC) t
   have hz:=List.takeWhile_append_dropWhile (p:=gapC) (l:=t.dropWhile attrC)
   have hzd:=dropWhile_head (p:=gapC) (t.dropWhile attrC)
   by_cases he:t.dropWhile attrC = []
   ·rw [if_pos he] at h; cases h
   ·by_cases hq:((t.dropWhile attrC).dropWhile gapC).head? = some 61
    ·obtain ⟨v,hv⟩:∃ v,(t.dropWhile attrC).dropWhile gapC = 61 :: v:=by
      cases hy:(t.dropWhile attrC).dropWhile gapC with
      | nil=>rw [hy] at hq; cases hq
      | cons x v=>rw [hy] at hq; simp at hq; exact ⟨v,by rw [hq]⟩
     rw [hv] at hz
     refine .inr (.inr ⟨s.takeWhile skipC,t.takeWhile attrC,(t.dropWhile attrC).takeWhile gapC,v.takeWhile gapC,v.dropWhile gapC,c,?_,takeWhile_all _,hc,h62,takeWhile_all _,takeWhile_all _,takeWhile_all _,dropWhile_head _⟩)
     rw [List.takeWhile_append_dropWhile,hz,ht,hs]
    ·refine .inr (.inl ⟨s.takeWhile skipC,t.takeWhile attrC,(t.dropWhile attrC).takeWhile gapC,(t.dropWhile attrC).dropWhile gapC,c,?_,takeWhile_all _,hc,h62,takeWhile_all _,takeWhile_all _,?_,?_,hzd,hq⟩)
     ·rw [hz,ht,hs]
     ·rw [hz]; exact htd
     ·rw [hz]; exact he
theorem val_none (n nm pre w c r r':List UInt8) (m:Md) (h:stepVal n nm pre w = some (c,none,m,r)) (ha:r'.head? = r.head?) :
  ∃ x,c = pre++x∧w = x++r∧stepVal n nm pre (x++r') = some (c,none,m,r'):=by
 unfold stepVal at h
 cases w with
 | nil=>cases h
 | cons q t =>
  simp only at h
  by_cases hq:q = 34 ∨ q = 39
  ·rw [if_pos hq] at h
   obtain ⟨f,hf,he⟩:=Option.map_eq_some_iff.1 h
   have hf:findL [q] t = some (f.1,f.2):=hf
   by_cases hl:linkNames.contains nm = true
   ·rw [if_pos hl] at he; simp at he
   ·rw [if_neg hl] at he
    simp only [Prod.mk.injEq] at he
    obtain ⟨rfl,_,rfl,rfl⟩:=he
    obtain ⟨z,hz⟩:=findL_one q t f.1 f.2 hf
    have ht:=(findL_some _ _ _ _ hf).1
    rw [hz] at ht hf ⊢
    rw [ht] at hf
    refine ⟨[q]++f.1++[q],by simp,by rw [ht]; simp,?_⟩
    have e:[q]++f.1++[q]++r' = q :: (f.1++q :: r'):=by simp
    rw [e]
    unfold stepVal
    simp only
    rw [if_pos hq,findL_oneLocal q f.1 z r' hf]
    simp only [Option.map_some,List.drop_succ_cons,List.drop_zero]
    rw [if_neg hl]
  ·rw [if_neg hq] at h
   by_cases he:(q :: t).dropWhile bareC = []
   ·rw [if_pos he] at h; cases h
   ·rw [if_neg he] at h
    by_cases hl:linkNames.contains nm = true
    ·rw [if_pos hl] at h; simp at h
    ·rw [if_neg hl] at h
     simp only [Option.some.injEq,Prod.mk.injEq] at h
     obtain ⟨rfl,_,rfl,rfl⟩:=h
     have hs:=List.takeWhile_append_dropWhile (p:=bareC) (l:=q :: t)
     refine ⟨(q :: t).takeWhile bareC,rfl,hs.symm,?_⟩
     obtain ⟨i1,i2⟩:=takeWhile_app (p:=bareC) ((q :: t).takeWhile bareC) r' (takeWhile_all _) (by rw [ha]; exact dropWhile_head _)
     have hne:r' ≠ []:=by
      intro e; rw [e] at ha
      cases hx:(q :: t).dropWhile bareC with
      | nil=>exact he hx
      | cons a b=>rw [hx] at ha; cases ha
     have hhd:((q :: t).takeWhile bareC++r').head? = some q:=by
      have h1:((q :: t).takeWhile bareC++r').head? = ((q :: t).takeWhile bareC++(q :: t).dropWhile bareC).head?:=by
       rw [List.head?_append,List.head?_append,ha]
      rw [h1,hs]; rfl
     obtain ⟨y,hy⟩:∃ y,(q :: t).takeWhile bareC++r' = q :: y:=by
      cases hx:(q :: t).takeWhile bareC++r' with
      | nil=>rw [hx] at hhd; cases hhd
      | cons a b=>rw [hx] at hhd; simp at hhd; exact ⟨b,by rw [hhd]⟩
     rw [hy]
     unfold stepVal
     simp only
     rw [if_neg hq,← hy,i2,i1,if_neg hne,if_neg hl]
theorem val_some (n nm pre w c r v:List UInt8) (k:Bool) (m:Md) (h:stepVal n nm pre w = some (c,some (v,k),m,r)) :
  linkNames.contains nm = true∧m = some (false,n)∧((k = true∧∃ q:UInt8,(q = 34 ∨ q = 39)∧c = pre++[q]∧w = q :: (v++q :: r)) ∨ (k = false∧c = pre∧w = v++r)):=by
 unfold stepVal at h
 cases w with
 | nil=>cases h
 | cons q t =>
  simp only at h
  by_cases hq:q = 34 ∨ q = 39
  ·rw [if_pos hq] at h
   obtain ⟨f,hf,he⟩:=Option.map_eq_some_iff.1 h
   have hf:findL [q] t = some (f.1,f.2):=hf
   by_cases hl:linkNames.contains nm = true
   ·rw [if_pos hl] at he
    simp only [Prod.mk.injEq,Option.some.injEq] at he
    obtain ⟨rfl,⟨rfl,rfl⟩,rfl,rfl⟩:=he
    obtain ⟨z,hz⟩:=findL_one q t f.1 f.2 hf
    have ht:=(findL_some _ _ _ _ hf).1
    rw [hz] at ht ⊢
    exact ⟨hl,rfl,.inl ⟨rfl,q,hq,rfl,by rw [ht]; rfl⟩⟩
   ·rw [if_neg hl] at he; simp at he
  ·rw [if_neg hq] at h
   by_cases he:(q :: t).dropWhile bareC = []
   ·rw [if_pos he] at h; cases h
   ·rw [if_neg he] at h
    by_cases hl:linkNames.contains nm = true
    ·rw [if_pos hl] at h
     simp only [Option.some.injEq,Prod.mk.injEq] at h
     obtain ⟨rfl,⟨rfl,rfl⟩,rfl,rfl⟩:=h
     exact ⟨hl,rfl,.inr ⟨rfl,rfl,(List.takeWhile_append_dropWhile (p:=bareC) (l:=q :: t)).symm⟩⟩
    ·rw [if_neg hl] at h; simp at h
theorem findL_fresh (q:UInt8) (x r:List UInt8) (hx:q ∉ x):findL [q] (x++q :: r) = some (x,q :: r):=by
 induction x with
 | nil=>show findL [q] (q :: r) = _; unfold findL; simp
 | cons c x ih =>
  have hc:(q == c) = false:=by
   rw [beq_eq_false_iff_ne]; intro e; exact hx (by simp [e])
  show findL [q] (c :: (x++q :: r)) = _
  unfold findL
  simp only [List.isPrefixOf,hc,Bool.false_and]
  rw [ih (fun h=>hx (by simp [h]))]
  rfl
theorem val_put (n nm pre x r:List UInt8) (q:UInt8) (hq:q = 34 ∨ q = 39) (hl:linkNames.contains nm = true) (hx:q ∉ x):stepVal n nm pre (q :: (x++q :: r)) = some (pre++[q],some (x,true),some (false,n),r):=by
 unfold stepVal
 simp only
 rw [if_pos hq,findL_fresh q x r hx]
 simp only [Option.map_some,List.drop_succ_cons,List.drop_zero]
 rw [if_pos hl]
theorem tag_none (n s c r r':List UInt8) (m:Md) (h:stepTag n s = some (c,none,m,r)) (ha:r'.head? = r.head?):s = c++r∧c ≠ []∧stepTag n (c++r') = some (c,none,m,r'):=by
 rcases tag_forms n s _ h with ⟨a,t,rfl,h1⟩ | ⟨a,b,g,z,d,rfl,h1,h2,h3,h4,h5,h6,h7,h8,h9⟩ | ⟨a,b,g,k,w,d,rfl,h1,h2,h3,h4,h5,h6,h7⟩
 ·rw [tag_close n a t h1] at h
  simp only [Option.some.injEq,Prod.mk.injEq,true_and] at h
  obtain ⟨rfl,rfl,rfl⟩:=h
  refine ⟨by simp,by simp,?_⟩
  have e:a++[62]++r' = a++62 :: r':=by simp
  rw [e]; exact tag_close n a r' h1
 ·rw [tag_name n a b g z d h1 h2 h3 h4 h5 h6 h7 h8 h9] at h
  simp only [Option.some.injEq,Prod.mk.injEq,true_and] at h
  obtain ⟨rfl,rfl,rfl⟩:=h
  refine ⟨by simp,by simp,?_⟩
  have e:a++d :: b++g++r' = a++d :: (b++(g++r')):=by simp
  have hh:(g++r').head? = (g++z).head?:=by rw [List.head?_append,List.head?_append,ha]
  rw [e]
  refine tag_name n a b g r' d h1 h2 h3 h4 h5 (by rw [hh]; exact h6) ?_ (by rw [ha]; exact h8) (by rw [ha]; exact h9)
  intro e0
  rw [e0] at hh
  cases hx:g++z with
  | nil=>exact h7 hx
  | cons x y=>rw [hx] at hh; cases hh
 ·rw [tag_val n a b g k w d h1 h2 h3 h4 h5 h6 h7] at h
  obtain ⟨x,rfl,rfl,hv⟩:=val_none _ _ _ _ _ _ r' _ h ha
  refine ⟨by simp,by simp,?_⟩
  have hh:(x++r').head? = (x++r).head?:=by rw [List.head?_append,List.head?_append,ha]
  have e:a++d :: b++g++[61]++k++x++r' = a++d :: (b++(g++61 :: (k++(x++r')))):=by simp
  rw [e,tag_val n a b g k (x++r') d h1 h2 h3 h4 h5 h6 (by rw [hh]; exact h7)]
  exact hv
theorem tag_some (n s c r v:List UInt8) (k:Bool) (m:Md) (h:stepTag n s = some (c,some (v,k),m,r)):m = some (false,n)∧c ≠ [] ∧
  ((k = true∧∃ q:UInt8,(q = 34 ∨ q = 39)∧c.getLast? = some q∧s = c++(v++q :: r)∧∀ x r':List UInt8,q ∉ x → stepTag n (c++(x++q :: r')) = some (c,some (x,true),m,r'))
  ∨ (k = false∧s = c++(v++r)∧∀ x r':List UInt8,34 ∉ x → stepTag n (c++34 :: (x++34 :: r')) = some (c++[34],some (x,true),m,r'))):=by
 rcases tag_forms n s _ h with ⟨a,t,rfl,h1⟩ | ⟨a,b,g,z,d,rfl,h1,h2,h3,h4,h5,h6,h7,h8,h9⟩ | ⟨a,b,g,e,w,d,rfl,h1,h2,h3,h4,h5,h6,h7⟩
 ·rw [tag_close n a t h1] at h
  simp at h
 ·rw [tag_name n a b g z d h1 h2 h3 h4 h5 h6 h7 h8 h9] at h
  simp at h
 ·rw [tag_val n a b g e w d h1 h2 h3 h4 h5 h6 h7] at h
  obtain ⟨hl,rfl,⟨rfl,q,hq,rfl,rfl⟩ | ⟨rfl,rfl,rfl⟩⟩:=val_some _ _ _ _ _ _ _ _ _ h
  ·refine ⟨rfl,by simp,.inl ⟨rfl,q,hq,by rw [List.getLast?_append]; rfl,by simp,fun x r' hx=>?_⟩⟩
   have e1:a++d :: b++g++[61]++e++[q]++(x++q :: r') = a++d :: (b++(g++61 :: (e++(q :: (x++q :: r'))))):=by simp
   rw [e1,tag_val n a b g e _ d h1 h2 h3 h4 h5 h6 (by rcases hq with rfl | rfl <;> simp <;> decide)]
   exact val_put _ _ _ _ _ _ hq hl hx
  ·refine ⟨rfl,by simp,.inr ⟨rfl,by simp,fun x r' hx=>?_⟩⟩
   have e1:a++d :: b++g++[61]++e++34 :: (x++34 :: r') = a++d :: (b++(g++61 :: (e++(34 :: (x++34 :: r'))))):=by simp
   rw [e1,tag_val n a b g e _ d h1 h2 h3 h4 h5 h6 (by simp; decide)]
   exact val_put _ _ _ _ _ _ (.inl rfl) hl hx
end Go.Proofs.YtknhacbfddggpaaGreatDoor
namespace Go.Proofs.YtknhacbfddggpaaGreatDoor
open Go.RowKit
theorem smallS_len (s:List UInt8):(smallS s).length = s.length:=by unfold smallS; simp
theorem smallS_app (a b:List UInt8):smallS (a++b) = smallS a++smallS b:=by unfold smallS; simp
theorem findN_some (sub s a b:List UInt8) (h:findN sub s = some (a,b)):s = a++b∧sub.isPrefixOf (smallS b) = true:=by
 induction s generalizing a with
 | nil=>cases h
 | cons c s ih =>
  unfold findN at h
  split at h
  ·rename_i hp
   simp only [Option.some.injEq,Prod.mk.injEq] at h
   obtain ⟨rfl,rfl⟩:=h
   exact ⟨rfl,hp⟩
  ·obtain ⟨q,hq1,hq2⟩:=Option.map_eq_some_iff.1 h
   simp only [Prod.mk.injEq] at hq2
   obtain ⟨rfl,rfl⟩:=hq2
   obtain ⟨i1,i2⟩:=ih q.1 hq1
   exact ⟨by rw [List.cons_append,← i1],i2⟩
theorem findN_local (sub:List UInt8) (y r r':List UInt8) (hy:sub.length ≤ y.length) (hy0:y ≠ []):∀ a:List UInt8,findN sub (a++(y++r)) = some (a,y++r) → findN sub (a++(y++r')) = some (a,y++r')
 | [],h=>by
  cases hs:y with
  | nil=>exact absurd hs hy0
  | cons c t =>
   have hp:=(findN_some _ _ _ _ h).2
   rw [smallS_app] at hp
   rw [prefix_local sub (smallS y) (smallS r) (smallS r') (by rw [smallS_len]; exact hy),← smallS_app,hs] at hp
   show findN sub (c :: (t++r')) = _
   have hp:sub.isPrefixOf (smallS (c :: (t++r'))) = true:=hp
   unfold findN
   rw [if_pos hp]; rfl
 | c :: a,h=>by
  have e:∀ z:List UInt8,smallS (c :: (a++(y++z))) = smallS (c :: a++y)++smallS z:=fun z=>by rw [← smallS_app]; simp
  have hloc:sub.isPrefixOf (smallS (c :: (a++(y++r)))) = sub.isPrefixOf (smallS (c :: (a++(y++r')))):=by
   rw [e,e]
   exact prefix_local sub _ _ _ (by rw [smallS_len]; simp; omega)
  show findN sub (c :: (a++(y++r'))) = _
  have h':findN sub (c :: (a++(y++r))) = some (c :: a,y++r):=h
  unfold findN at h' ⊢
  rw [← hloc]
  split at h'
  ·simp at h'
  ·rename_i hn
   rw [if_neg hn]
   obtain ⟨q,hq1,hq2⟩:=Option.map_eq_some_iff.1 h'
   simp only [Prod.mk.injEq,List.cons.injEq,true_and] at hq2
   obtain ⟨hq0,hq3⟩:=hq2
   have hq4:findN sub (a++(y++r)) = some (a,y++r):=by rw [hq1,← hq3,← hq0]
   rw [findN_local sub y r r' hy hy0 a hq4]; rfl
theorem small_60 (c:UInt8) (h:smallC c = 60):c = 60:=by
 have key:∀ n:Fin 256,smallC (UInt8.ofNat n.val) = 60 → UInt8.ofNat n.val = 60:=by decide +kernel
 have:=key ⟨c.toNat,c.toNat_lt⟩
 have e:UInt8.ofNat c.toNat = c:=by simp
 simp only [e] at this
 exact this h
theorem small_47 (c:UInt8) (h:smallC c = 47):c = 47:=by
 have key:∀ n:Fin 256,smallC (UInt8.ofNat n.val) = 47 → UInt8.ofNat n.val = 47:=by decide +kernel
 have:=key ⟨c.toNat,c.toNat_lt⟩
 have e:UInt8.ofNat c.toNat = c:=by simp
 simp only [e] at this
 exact this h
theorem skip_no62 (n:List UInt8) (h:skipNames.contains n = true):62 ∉ n:=by
 have key:∀ x ∈ skipNames,62 ∉ x:=by decide
 exact key n (by simpa using h)
theorem takeWhile_pre (x r:List UInt8) (h:62 ∉ x):(x++r).takeWhile (· != 62) = x++r.takeWhile (· != 62):=by
 induction x with
 | nil=>rfl
 | cons c x ih =>
  have hc:(c != 62) = true:=by simp only [bne_iff_ne]; intro e; exact h (by simp [e])
  rw [List.cons_append,List.takeWhile_cons,hc]
  simp only [↓reduceIte,List.cons_append]
  rw [ih (fun hx=>h (by simp [hx]))]
theorem takeWhile_in (x r r':List UInt8) (h:62 ∈ x):(x++r).takeWhile (· != 62) = (x++r').takeWhile (· != 62):=by
 induction x with
 | nil=>cases h
 | cons c x ih =>
  rw [List.cons_append,List.cons_append,List.takeWhile_cons,List.takeWhile_cons]
  by_cases hc:c = 62
  ·subst hc; rfl
  ·have hc':(c != 62) = true:=by simpa using hc
   rw [hc']
   simp only [↓reduceIte,List.cons.injEq,true_and]
   exact ih (by simpa [Ne.symm hc] using h)
theorem skip_local (n s c r r':List UInt8) (e:Option (List UInt8 × Bool)) (m:Md) (hn:skipNames.contains n = true) (h:stepSkip n s = some (c,e,m,r)) (ha:Agree none r r'):e = none∧m = none∧s = c++r∧stepSkip n (c++r') = some (c,none,none,r'):=by
 unfold stepSkip at h
 obtain ⟨q,hq,he⟩:=Option.map_eq_some_iff.1 h
 simp only [Prod.mk.injEq] at he
 obtain ⟨rfl,rfl,rfl,rfl⟩:=he
 have hq:findN (60 :: 47 :: n) s = some (q.1,q.2):=hq
 obtain ⟨h1,h2⟩:=findN_some _ _ _ _ hq
 obtain ⟨t,ht⟩:=List.isPrefixOf_iff_prefix.1 h2
 have hlen:(60 :: 47 :: n).length ≤ q.2.length:=by
  have:=congrArg List.length ht
  rw [smallS_len,List.length_append] at this
  omega
 have hy:smallS (q.2.take (60 :: 47 :: n).length) = 60 :: 47 :: n:=by
  have:smallS q.2 = smallS (q.2.take (60 :: 47 :: n).length)++smallS (q.2.drop (60 :: 47 :: n).length):=by rw [← smallS_app,List.take_append_drop]
  rw [this] at ht
  exact (List.append_inj_left ht (by rw [smallS_len,List.length_take]; omega)).symm
 have hno:62 ∉ q.2.take (60 :: 47 :: n).length:=by
  intro hm
  have:smallC 62 ∈ smallS (q.2.take (60 :: 47 :: n).length):=by unfold smallS; exact List.mem_map_of_mem hm
  rw [hy,show smallC 62 = 62 by decide] at this
  have h6:=skip_no62 n hn
  simp at this
  exact h6 this
 have hcut:q.2 = q.2.take (60 :: 47 :: n).length++q.2.drop (60 :: 47 :: n).length:=(List.take_append_drop _ _).symm
 generalize q.2.take (60 :: 47 :: n).length = y at hy hno hcut
 generalize q.2.drop (60 :: 47 :: n).length = r1 at hcut
 obtain ⟨y2,rfl⟩:∃ y2,y = 60 :: 47 :: y2:=by
  match y,hy with
  | [],hy=>cases hy
  | [a],hy=>exact absurd (congrArg List.length hy) (by rw [smallS_len]; simp)
  | a :: b :: y2,hy =>
   have hy':smallC a :: smallC b :: smallS y2 = 60 :: 47 :: n:=hy
   simp only [List.cons.injEq] at hy'
   exact ⟨y2,by rw [small_60 a hy'.1,small_47 b hy'.2.1]⟩
 have htw:=ha.2 rfl (y2++r1) (by rw [hcut]; rfl)
 rw [hcut,takeWhile_pre _ r1 hno] at htw
 have hr':=List.takeWhile_append_dropWhile (p:=(· != 62)) (l:=r')
 rw [htw,List.append_assoc] at hr'
 generalize r1.takeWhile (· != 62)++r'.dropWhile (· != 62) = r2 at hr'
 refine ⟨rfl,rfl,h1,?_⟩
 have hlen2:(60 :: 47 :: n).length ≤ (60 :: 47 :: y2).length:=by
  have:=congrArg List.length hy
  rw [smallS_len] at this
  omega
 have hl:=findN_local (60 :: 47 :: n) (60 :: 47 :: y2) r1 r2 hlen2 (by simp) q.1 (by rw [← hcut,← h1]; exact hq)
 unfold stepSkip
 rw [← hr',hl]
 rfl
theorem top_end (t c r:List UInt8) (e:Option (List UInt8 × Bool)) (m:Md) (h:stepTop (60 :: 47 :: t) = some (c,e,m,r)):62 ∈ c:=by
 unfold stepTop at h
 have hf:findL [60] (60 :: 47 :: t) = some ([],60 :: 47 :: t):=by unfold findL; simp
 rw [hf] at h
 simp only [List.drop_succ_cons,List.drop_zero] at h
 rw [if_neg (by simp [List.isPrefixOf]),if_pos (.inl trivial)] at h
 obtain ⟨q,hq,he⟩:=Option.map_eq_some_iff.1 h
 simp only [Prod.mk.injEq] at he
 rw [← he.1]; simp
end Go.Proofs.YtknhacbfddggpaaGreatDoor
namespace Go.Proofs.YtknhacbfddggpaaGreatDoor
open Go.RowKit
abbrev PItem:=List UInt8 × Option (List UInt8 × Bool)
inductive Run:Md → List UInt8 → List PItem → List UInt8 → Prop
 | stop (m:Md) (s:List UInt8):stepG m s = none → Run m s [] s
 | go (m m':Md) (s c r tl:List UInt8) (e:Option (List UInt8 × Bool)) (its:List PItem):stepG m s = some (c,e,m',r) → Run m' r its tl → Run m s ((c,e) :: its) tl
def srcP:List PItem → List UInt8 → List UInt8
 | [],tl=>tl
 | (c,none) :: its,tl=>c++srcP its tl
 | (c,some (v,true)) :: its,tl=>c++(v++c.getLast?.getD 0 :: srcP its tl)
 | (c,some (v,false)) :: its,tl=>c++(v++srcP its tl)
def outP:List PItem → List (List UInt8) → List UInt8 → List UInt8
 | [],_,tl=>tl
 | (c,none) :: its,vs,tl=>c++outP its vs tl
 | (c,some (_,true)) :: its,vs,tl=>c++(vs.headD []++c.getLast?.getD 0 :: outP its vs.tail tl)
 | (c,some (_,false)) :: its,vs,tl=>c++34 :: (vs.headD []++34 :: outP its vs.tail tl)
def turned:List PItem → List (List UInt8) → List PItem
 | [],_=>[]
 | (c,none) :: its,vs=>(c,none) :: turned its vs
 | (c,some (_,true)) :: its,vs=>(c,some (vs.headD [],true)) :: turned its vs.tail
 | (c,some (_,false)) :: its,vs=>(c++[34],some (vs.headD [],true)) :: turned its vs.tail
def GoodM (m:Md):Prop:=∀ n,m = some (true,n) → skipNames.contains n = true
theorem step_good (m m':Md) (s c r:List UInt8) (e:Option (List UInt8 × Bool)) (hg:GoodM m) (h:stepG m s = some (c,e,m',r)):GoodM m':=by
 intro n hn
 subst hn
 match m with
 | none =>
  have h:stepTop s = some (c,e,some (true,n),r):=h
  unfold stepTop at h
  repeat' split at h
  all_goals first
   | (cases h; done)
   | (simp at h; done)
   | (obtain ⟨q,_,hq⟩:=Option.map_eq_some_iff.1 h; simp at hq)
 | some (true,n') =>
  have h:stepSkip n' s = some (c,e,some (true,n),r):=h
  unfold stepSkip at h
  obtain ⟨q,_,hq⟩:=Option.map_eq_some_iff.1 h
  simp at hq
 | some (false,n') =>
  have h:stepTag n' s = some (c,e,some (true,n),r):=h
  rcases tag_forms n' s _ h with ⟨a,t,rfl,h1⟩ | ⟨a,b,g,z,d,rfl,h1,h2,h3,h4,h5,h6,h7,h8,h9⟩ | ⟨a,b,g,k,w,d,rfl,h1,h2,h3,h4,h5,h6,h7⟩
  ·rw [tag_close n' a t h1] at h
   simp only [Option.some.injEq,Prod.mk.injEq] at h
   have h3:=h.2.2.1
   split at h3
   ·rename_i hc
    simp only [Option.some.injEq,Prod.mk.injEq,true_and] at h3
    rw [← h3]; exact hc
   ·cases h3
  ·rw [tag_name n' a b g z d h1 h2 h3 h4 h5 h6 h7 h8 h9] at h
   simp at h
  ·rw [tag_val n' a b g k w d h1 h2 h3 h4 h5 h6 h7] at h
   cases e with
   | none =>
    unfold stepVal at h
    repeat' split at h
    all_goals first
     | (cases h; done)
     | (simp at h; done)
     | (obtain ⟨q,_,hq⟩:=Option.map_eq_some_iff.1 h; split at hq <;> simp at hq)
   | some v =>
    obtain ⟨_,hm,_⟩:=val_some _ _ _ _ _ _ v.1 v.2 _ h
    simp at hm
theorem run_turn (m:Md) (s:List UInt8) (its:List PItem) (tl:List UInt8) (hr:Run m s its tl):∀ vs:List (List UInt8),GoodM m → (∀ x ∈ vs,34 ∉ x∧39 ∉ x) → Run m (outP its vs tl) (turned its vs) tl∧Agree m s (outP its vs tl)∧s = srcP its tl:=by
 induction hr with
 | stop m s h=>intro vs _ _; exact ⟨Run.stop m s h,⟨rfl,fun _ _ _=>rfl⟩,rfl⟩
 | go m m' s c r tl e its h hrun ih =>
  intro vs hg hv
  have hg':=step_good _ _ _ _ _ _ hg h
  have hvt:∀ x ∈ vs.tail,34 ∉ x∧39 ∉ x:=fun x hx=>hv x (List.mem_of_mem_tail hx)
  have hvh:34 ∉ vs.headD []∧39 ∉ vs.headD []:=by
   cases vs with
   | nil=>simp
   | cons x vs=>exact hv x (by simp)
  match m with
  | none =>
   obtain ⟨i1,i2,i3⟩:=ih vs hg' hv
   have h:stepTop s = some (c,e,m',r):=h
   obtain ⟨rfl,hs,hc,hl⟩:=top_local s c r (outP its vs tl) e m' h i2.1
   refine ⟨Run.go none m' _ c (outP its vs tl) tl none _ hl i1,⟨?_,fun _ t ht=>?_⟩,by rw [hs,srcP,← i3]⟩
   ·rw [hs,outP]
    cases c with
    | nil=>exact absurd rfl hc
    | cons a b=>rfl
   ·rw [ht] at h
    have:=top_end t c r none m' h
    rw [hs,outP]
    exact takeWhile_in c _ _ this
  | some (true,n) =>
   obtain ⟨i1,i2,i3⟩:=ih vs hg' hv
   have h:stepSkip n s = some (c,e,m',r):=h
   have hm':m' = none:=by
    unfold stepSkip at h
    obtain ⟨q,_,hq⟩:=Option.map_eq_some_iff.1 h
    simp only [Prod.mk.injEq] at hq
    exact hq.2.2.1.symm
   subst hm'
   obtain ⟨rfl,_,hs,hl⟩:=skip_local n s c r (outP its vs tl) e none (hg n rfl) h i2
   refine ⟨Run.go (some (true,n)) none _ c (outP its vs tl) tl none _ hl i1,⟨?_,fun hm=>by cases hm⟩,by rw [hs,srcP,← i3]⟩
   rw [hs,outP,List.head?_append,List.head?_append,i2.1]
  | some (false,n) =>
   have h:stepTag n s = some (c,e,m',r):=h
   match e with
   | none =>
    obtain ⟨i1,i2,i3⟩:=ih vs hg' hv
    obtain ⟨hs,hc,hl⟩:=tag_none n s c r (outP its vs tl) m' h i2.1
    refine ⟨Run.go (some (false,n)) m' _ c (outP its vs tl) tl none _ hl i1,⟨?_,fun hm=>by cases hm⟩,by rw [hs,srcP,← i3]⟩
    rw [hs,outP]
    cases c with
    | nil=>exact absurd rfl hc
    | cons a b=>rfl
   | some (v,k) =>
    obtain ⟨i1,i2,i3⟩:=ih vs.tail hg' hvt
    obtain ⟨hm,hc,⟨rfl,q,hq,hlast,hs,hl⟩ | ⟨rfl,hs,hl⟩⟩:=tag_some n s c r v k m' h
    ·refine ⟨?_,⟨?_,fun hm=>by cases hm⟩,by rw [hs,srcP,← i3,hlast]; rfl⟩
     ·rw [outP,turned,hlast]
      exact Run.go (some (false,n)) m' _ c (outP its vs.tail tl) tl _ _ (hl _ _ (by rcases hq with rfl | rfl; exact hvh.1; exact hvh.2)) i1
     ·rw [hs,outP]
      cases c with
      | nil=>exact absurd rfl hc
      | cons a b=>rfl
    ·refine ⟨?_,⟨?_,fun hm=>by cases hm⟩,by rw [hs,srcP,← i3]⟩
     ·rw [outP,turned]
      exact Run.go (some (false,n)) m' _ (c++[34]) (outP its vs.tail tl) tl _ _ (hl _ _ hvh.1) i1
     ·rw [hs,outP]
      cases c with
      | nil=>exact absurd rfl hc
      | cons a b=>rfl
theorem run_det (m:Md) (s:List UInt8) (its:List PItem) (tl:List UInt8) (h:Run m s its tl):∀ its' tl',Run m s its' tl' → its' = its∧tl' = tl:=by
 induction h with
 | stop m s h =>
  intro its' tl' h'
  cases h' with
  | stop _ _ _=>exact ⟨rfl,rfl⟩
  | go _ _ _ _ _ _ _ _ h2 _=>rw [h] at h2; cases h2
 | go m m' s c r tl e its h _ ih =>
  intro its' tl' h'
  cases h' with
  | stop _ _ h2=>rw [h] at h2; cases h2
  | go _ m2 _ c2 r2 _ e2 its2 h2 hr2 =>
   rw [h] at h2
   simp only [Option.some.injEq,Prod.mk.injEq] at h2
   obtain ⟨rfl,rfl,rfl,rfl⟩:=h2
   obtain ⟨j1,j2⟩:=ih _ _ hr2
   exact ⟨by rw [j1],j2⟩
end Go.Proofs.YtknhacbfddggpaaGreatDoor
namespace Go.Proofs.YtknhacbfddggpaaGreatDoor
open Go.RowKit
def linksP:Nat → List PItem → List (Nat × Nat × List UInt8)
 | _,[]=>[]
 | k,(c,none) :: its=>linksP (k+c.length) its
 | k,(c,some (v,b)) :: its=>(k+c.length,v.length,unescS v) :: linksP (k+c.length+v.length+(if b then 1 else 0)) its
def countP:List PItem → Nat
 | []=>0
 | (_,none) :: its=>countP its
 | (_,some _) :: its=>countP its+1
theorem links_len:∀ (its:List PItem) (k:Nat),(linksP k its).length = countP its
 | [],_=>rfl
 | (c,none) :: its,k=>by rw [linksP,countP,links_len its]
 | (c,some (v,b)) :: its,k=>by rw [linksP,countP,List.length_cons,links_len its]
def modeW:Md → Nat
 | some (true,_)=>1
 | _=>0
theorem modeW_le (m:Md):modeW m ≤ 1:=by unfold modeW; split <;> omega
theorem page_turned (s:List UInt8) (its:List PItem) (tl:List UInt8) (h:Run none s its tl) (vs:List (List UInt8)):s = srcP its tl∧Run none (outP its (vs.map escS) tl) (turned its (vs.map escS)) tl:=by
 obtain ⟨h1,_,h3⟩:=run_turn none s its tl h (vs.map escS) (fun n hn=>by cases hn) (by
  intro x hx
  obtain ⟨v,_,rfl⟩:=List.mem_map.1 hx
  exact ⟨fun h=>(escS_plain v 34 h).1 rfl,fun h=>(escS_plain v 39 h).2.1 rfl⟩)
 exact ⟨h3,h1⟩
end Go.Proofs.YtknhacbfddggpaaGreatDoor
namespace Go.Proofs.YtknhacbfddggpaaGreatDoor
open Go.RowKit
def preO (x:List UInt8) (o:Out):Out:=(x++o.1,o.2)
theorem dropWhile_idem {p:UInt8 → Bool} (s:List UInt8):(s.dropWhile p).dropWhile p = s.dropWhile p∧(s.dropWhile p).takeWhile p = []:=by
 obtain ⟨h1,h2⟩:=takeWhile_app (p:=p) [] (s.dropWhile p) (by simp) (dropWhile_head s)
 exact ⟨h2,h1⟩
theorem val_pre (n nm x pre t:List UInt8):stepVal n nm (x++pre) t = (stepVal n nm pre t).map (preO x):=by
 unfold stepVal
 cases t with
 | nil=>rfl
 | cons q t' =>
  simp only
  by_cases h1:q = 34 ∨ q = 39
  ·rw [if_pos h1,if_pos h1,Option.map_map]
   congr 1
   funext f
   simp only [Function.comp]
   split <;> simp [preO]
  ·rw [if_neg h1,if_neg h1]
   by_cases h2:(q :: t').dropWhile bareC = []
   ·rw [if_pos h2,if_pos h2]; rfl
   ·rw [if_neg h2,if_neg h2]
    by_cases h3:linkNames.contains nm = true
    ·rw [if_pos h3,if_pos h3]; simp [preO]
    ·rw [if_neg h3,if_neg h3]; simp [preO]
theorem tag_skip (n s:List UInt8):stepTag n s = (stepTag n (s.dropWhile skipC)).map (preO (s.takeWhile skipC)):=by
 obtain ⟨h1,h2⟩:=dropWhile_idem (p:=skipC) s
 unfold stepTag
 rw [h1,h2]
 cases s.dropWhile skipC with
 | nil=>rfl
 | cons c t =>
  simp only [List.nil_append]
  by_cases h3:c = 62
  ·rw [if_pos h3,if_pos h3]; simp [preO]
  ·rw [if_neg h3,if_neg h3]
   by_cases h4:t.dropWhile attrC = []
   ·rw [if_pos h4,if_pos h4]; rfl
   ·rw [if_neg h4,if_neg h4]
    by_cases h5:((t.dropWhile attrC).dropWhile gapC).head? = some 61
    ·rw [if_pos h5,if_pos h5,← val_pre]
     congr 1
     simp
    ·rw [if_neg h5,if_neg h5]; simp [preO]
theorem links_pre (x c:List UInt8) (e:Option (List UInt8 × Bool)) (its:List PItem) (k:Nat):linksP (k+x.length) ((c,e) :: its) = linksP k ((x++c,e) :: its):=by
 match e with
 | none=>rw [linksP,linksP,List.length_append,Nat.add_assoc k]
 | some (v,b)=>rw [linksP,linksP,List.length_append,Nat.add_assoc k]
theorem run_skip (n s:List UInt8) (its:List PItem) (tl:List UInt8) (h:Run (some (false,n)) s its tl):∃ its' tl',Run (some (false,n)) (s.dropWhile skipC) its' tl'∧∀ k,linksP (k+(s.takeWhile skipC).length) its' = linksP k its:=by
 cases h with
 | stop _ _ h =>
  refine ⟨[],_,Run.stop _ _ ?_,fun k=>rfl⟩
  have h:stepTag n s = none:=h
  rw [tag_skip] at h
  exact Option.map_eq_none_iff.1 h
 | go _ m' _ c r _ e its h hr =>
  have h:stepTag n s = some (c,e,m',r):=h
  rw [tag_skip] at h
  obtain ⟨o,ho,he⟩:=Option.map_eq_some_iff.1 h
  obtain ⟨c1,e1,m1,r1⟩:=o
  simp only [preO,Prod.mk.injEq] at he
  obtain ⟨rfl,rfl,rfl,rfl⟩:=he
  exact ⟨_,_,Run.go _ _ _ c1 _ _ _ _ ho hr,fun k=>links_pre _ _ _ _ _⟩
theorem findL_pre60 (d:UInt8) (u s:List UInt8) (h:d ∉ u):findL [d] (u++s) = (findL [d] s).map fun q=>(u++q.1,q.2):=by
 induction u with
 | nil=>simp
 | cons c u ih =>
  have h1:c ≠ d:=fun e=>h (by simp [e])
  have h2:d ∉ u:=fun e=>h (by simp [e])
  show findL [d] (c :: (u++s)) = _
  conv=>lhs; unfold findL
  have h3:([d]:List UInt8).isPrefixOf (c :: (u++s)) = false:=by
   simp only [List.isPrefixOf,Bool.and_true,beq_eq_false_iff_ne]
   exact fun e=>h1 e.symm
  rw [h3,ih h2,Option.map_map]
  rfl
theorem top_pre (u s:List UInt8) (h:60 ∉ u):stepTop (u++s) = (stepTop s).map (preO u):=by
 unfold stepTop
 rw [findL_pre60 60 u s h]
 cases findL [60] s with
 | none=>rfl
 | some q =>
  obtain ⟨q1,q2⟩:=q
  simp only [Option.map_some]
  cases q2.drop 1 with
  | nil=>rfl
  | cons c r =>
   simp only
   by_cases h1:[33,45,45].isPrefixOf (c :: r) = true
   ·rw [if_pos h1,if_pos h1,Option.map_map]
    congr 1
    funext f
    simp [preO]
   ·rw [if_neg h1,if_neg h1]
    by_cases h2:c = 47 ∨ c = 33 ∨ c = 63
    ·rw [if_pos h2,if_pos h2,Option.map_map]
     congr 1
     funext f
     simp [preO]
    ·rw [if_neg h2,if_neg h2]
     by_cases h3:alphC c = true
     ·rw [if_pos h3,if_pos h3]; simp [preO]
     ·rw [if_neg h3,if_neg h3]; simp [preO]
theorem run_pre (u s:List UInt8) (hu:60 ∉ u) (its:List PItem) (tl:List UInt8) (h:Run none (u++s) its tl):∃ its' tl',Run none s its' tl'∧∀ k,linksP (k+u.length) its' = linksP k its:=by
 cases h with
 | stop _ _ h =>
  refine ⟨[],_,Run.stop _ _ ?_,fun k=>rfl⟩
  have h:stepTop (u++s) = none:=h
  rw [top_pre u s hu] at h
  exact Option.map_eq_none_iff.1 h
 | go _ m' _ c r _ e its h hr =>
  have h:stepTop (u++s) = some (c,e,m',r):=h
  rw [top_pre u s hu] at h
  obtain ⟨o,ho,he⟩:=Option.map_eq_some_iff.1 h
  obtain ⟨c1,e1,m1,r1⟩:=o
  simp only [preO,Prod.mk.injEq] at he
  obtain ⟨rfl,rfl,rfl,rfl⟩:=he
  exact ⟨_,_,Run.go _ _ _ c1 _ _ _ _ ho hr,fun k=>links_pre _ _ _ _ _⟩
theorem run_none (s:List UInt8) (h:60 ∉ s) (its:List PItem) (tl:List UInt8) (hr:Run none s its tl):its = []:=by
 cases hr with
 | stop _ _ h=>rfl
 | go _ m' _ c r _ e its h2 _ =>
  have h2:stepTop s = some (c,e,m',r):=h2
  have:=top_pre s [] h
  rw [List.append_nil] at this
  rw [this] at h2
  cases h2
theorem run_nil (m:Md):Run m [] [] []:=Run.stop m [] (by
 match m with
 | none=>rfl
 | some (true,n)=>rfl
 | some (false,n)=>rfl)
theorem index_findN (sub l:List UInt8) (h0:sub ≠ []):Lib.index (smallS l) sub = match findN sub l with | none=>-1 | some q=>(q.1.length:Int):=by
 induction l with
 | nil =>
  show Lib.index [] sub = -1
  unfold Lib.index
  cases sub with
  | nil=>exact absurd rfl h0
  | cons a b=>rfl
 | cons c l ih =>
  have e:smallS (c :: l) = smallC c :: smallS l:=rfl
  unfold findN
  rw [e]
  unfold Lib.index
  by_cases h:sub.isPrefixOf (smallC c :: smallS l) = true
  ·rw [if_pos h,if_pos h]; rfl
  ·rw [if_neg h,if_neg h,ih]
   cases findN sub l with
   | none=>rfl
   | some q =>
    simp only [Option.map_some,List.length_cons]
    have h1:((q.1.length:Int) == -1) = false:=by simp
    rw [h1]
    simp
def fixed (c:UInt8):Prop:=∀ d,smallC d = c ↔ d = c
theorem fixed_of (c:UInt8) (h:∀ n:Fin 256,decide (smallC (UInt8.ofNat n.val) = c ↔ UInt8.ofNat n.val = c) = true):fixed c:=by
 intro d
 have:=h ⟨d.toNat,d.toNat_lt⟩
 have e:UInt8.ofNat d.toNat = d:=by simp
 simp only [e] at this
 exact of_decide_eq_true this
theorem fixed60:fixed 60:=fixed_of _ (by decide +kernel)
theorem fixed62:fixed 62:=fixed_of _ (by decide +kernel)
theorem fixed45:fixed 45:=fixed_of _ (by decide +kernel)
theorem prefix_fixed (sub:List UInt8) (h:∀ c ∈ sub,fixed c) (s:List UInt8):sub.isPrefixOf (smallS s) = sub.isPrefixOf s:=by
 induction sub generalizing s with
 | nil=>simp
 | cons c sub ih =>
  cases s with
  | nil=>rfl
  | cons d s =>
   have e:smallS (d :: s) = smallC d :: smallS s:=rfl
   rw [e]
   simp only [List.isPrefixOf]
   rw [ih (fun x hx=>h x (by simp [hx])) s]
   congr 1
   rw [Bool.eq_iff_iff,beq_iff_eq,beq_iff_eq]
   have:=h c (by simp) d
   constructor
   ·intro e; exact (this.1 e.symm).symm
   ·intro e; exact (this.2 e.symm).symm
theorem findN_fixed (sub:List UInt8) (h:∀ c ∈ sub,fixed c) (s:List UInt8):findN sub s = findL sub s:=by
 induction s with
 | nil=>rfl
 | cons c s ih =>
  unfold findN findL
  rw [prefix_fixed sub h,ih]
theorem findL_mem (d:UInt8) (s:List UInt8) (h:findL [d] s = none):d ∉ s:=by
 induction s with
 | nil=>simp
 | cons c s ih =>
  unfold findL at h
  split at h
  ·cases h
  ·rename_i hp
   have h1:=ih (Option.map_eq_none_iff.1 h)
   intro hm
   rcases List.mem_cons.1 hm with e | e
   ·apply hp
    simp [List.isPrefixOf,e]
   ·exact h1 e
theorem findL_ahead (d:UInt8) (s a b:List UInt8) (h:findL [d] s = some (a,b)):d ∉ a:=by
 induction s generalizing a with
 | nil=>cases h
 | cons c s ih =>
  unfold findL at h
  split at h
  ·simp only [Option.some.injEq,Prod.mk.injEq] at h
   rw [← h.1]; simp
  ·rename_i hp
   obtain ⟨q,hq1,hq2⟩:=Option.map_eq_some_iff.1 h
   simp only [Prod.mk.injEq] at hq2
   obtain ⟨rfl,rfl⟩:=hq2
   intro hm
   rcases List.mem_cons.1 hm with e | e
   ·apply hp
    simp [List.isPrefixOf,e]
   ·exact ih q.1 hq1 e
theorem findN_gt (n t:List UInt8):findN (60 :: 47 :: n) (62 :: t) = (findN (60 :: 47 :: n) t).map fun q=>(62 :: q.1,q.2):=by
 conv=>lhs; unfold findN
 have:(60 :: 47 :: n).isPrefixOf (smallS (62 :: t)) = false:=rfl
 rw [this]
 rfl
end Go.Proofs.YtknhacbfddggpaaGreatDoor
namespace Go.Proofs.YtknhacbfddggpaaGreatDoor
open Go.RowKit
theorem links_vals:∀ (its:List PItem) (vs:List (List UInt8)) (k:Nat),vs.length = countP its → (linksP k (turned its vs)).map (fun q=>q.2.2) = vs.map unescS
 | [],vs,k,h=>by
  rw [countP] at h
  rw [List.eq_nil_of_length_eq_zero h]
  rfl
 | (c,none) :: its,vs,k,h=>by
  rw [countP] at h
  rw [turned,linksP,links_vals its vs _ h]
 | (c,some (v,true)) :: its,vs,k,h=>by
  rw [countP] at h
  cases vs with
  | nil=>simp at h
  | cons x vs =>
   rw [turned,linksP,List.map_cons,List.map_cons,List.tail_cons,links_vals its vs _ (by simpa using h)]
   rfl
 | (c,some (v,false)) :: its,vs,k,h=>by
  rw [countP] at h
  cases vs with
  | nil=>simp at h
  | cons x vs =>
   rw [turned,linksP,List.map_cons,List.map_cons,List.tail_cons,links_vals its vs _ (by simpa using h)]
   rfl
end Go.Proofs.YtknhacbfddggpaaGreatDoor
