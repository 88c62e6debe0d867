import Derived.Test.YtknhacbfddggpaaGreatDoorZ4
import Derived.Lib.IndexMore
namespace Go.Proofs.YtknhacbfddggpaaGreatDoor
open Go.RowKit
abbrev PB:=List UInt8 × List UInt8
def inC (c:UInt8):Bool:=decide (32 ≤ c.toNat) && decide (c.toNat ≤ 126)
def specials:List UInt8:=[40,41,60,62,64,44,59,58,92,34,47,91,93,63,61]
def tokC (c:UInt8):Bool:=decide (33 ≤ c.toNat) && decide (c.toNat ≤ 126) && !specials.contains c
def tokS (l:List UInt8):Bool:=!l.isEmpty && l.all tokC
def isMainS (l:List UInt8):Bool:=tokS (l.takeWhile (· != 47)) && ((l.dropWhile (· != 47)).isEmpty || tokS ((l.dropWhile (· != 47)).drop 1))
def quotedS:List UInt8 → Option (List UInt8 × List UInt8)
 | []=>none
 | c :: r=>if c = 34 then some ([],r) else if c = 92 then (match r with | []=>none | d :: r'=>if inC d then (quotedS r').map fun q=>(d :: q.1,q.2) else none) else if inC c then (quotedS r).map fun q=>(c :: q.1,q.2) else none
def valueP (nm r5:List UInt8):Option (PB × List UInt8):=
 if r5.head? = some 34 then (quotedS (r5.drop 1)).map fun q=>((smallS nm,q.1),dropB q.2)
 else if r5.takeWhile tokC = [] then none else some ((smallS nm,r5.takeWhile tokC),dropB (r5.dropWhile tokC))
def oneP (r:List UInt8):Option (PB × List UInt8):=
 if (dropB r).takeWhile tokC = [] then none
 else if (dropB ((dropB r).dropWhile tokC)).head? = some 61 then valueP ((dropB r).takeWhile tokC) (dropB ((dropB ((dropB r).dropWhile tokC)).drop 1)) else none
def paramsF:Nat → List UInt8 → Option (List PB)
 | 0,l=>if l = [] then some [] else none
 | n+1,l=>if l = [] then some [] else if l.head? = some 59 then (oneP (l.drop 1)).bind fun q=>(paramsF n q.2).map fun k=>q.1 :: k else none
def readK (s:List UInt8):Option (List UInt8 × List PB):=
 if isMainS (smallS (trimS (s.takeWhile (· != 59)))) then (paramsF s.length (s.dropWhile (· != 59))).map fun k=>(smallS (trimS (s.takeWhile (· != 59))),k) else none
def escC (c:UInt8):List UInt8:=if c = 34 ∨ c = 92 then [92,c] else [c]
def valW (v:List UInt8):List UInt8:=if tokS v then v else 34 :: (v.flatMap escC++[34])
def paramW (p:PB):List UInt8:=[59,32]++p.1++[61]++valW p.2
def writeK (m:List UInt8) (l:List PB):List UInt8:=m++l.flatMap paramW
def goodM (m:List UInt8):Bool:=isMainS m && decide (smallS m = m)
def goodP (p:PB):Bool:=tokS p.1 && decide (smallS p.1 = p.1) && p.2.all inC
def goodK (m:List UInt8) (l:List PB):Bool:=goodM m && l.all goodP
theorem tok_cases (c:UInt8) (h:tokC c = true):blk c = false∧c ≠ 59∧c ≠ 61∧c ≠ 34∧c ≠ 47∧inC c = true∧tokC (smallC c) = true:=by
 have key:∀ n:Fin 256,tokC (UInt8.ofNat n.val) = true → blk (UInt8.ofNat n.val) = false∧UInt8.ofNat n.val ≠ 59∧UInt8.ofNat n.val ≠ 61∧UInt8.ofNat n.val ≠ 34∧UInt8.ofNat n.val ≠ 47∧inC (UInt8.ofNat n.val) = true∧tokC (smallC (UInt8.ofNat n.val)) = true:=by decide +kernel
 have:=key ⟨c.toNat,c.toNat_lt⟩
 simp at this
 have e:UInt8.ofNat c.toNat = c:=by simp
 simpa using this h
theorem small_idem (c:UInt8):smallC (smallC c) = smallC c:=by
 have key:∀ n:Fin 256,smallC (smallC (UInt8.ofNat n.val)) = smallC (UInt8.ofNat n.val):=by decide +kernel
 have:=key ⟨c.toNat,c.toNat_lt⟩
 simpa using this
theorem smallS_idem (l:List UInt8):smallS (smallS l) = smallS l:=by
 unfold smallS
 rw [List.map_map]
 exact List.map_congr_left fun c _=>small_idem c
theorem tokS_parts {l:List UInt8} (h:tokS l = true):∃ c r,l = c :: r∧tokC c = true∧∀ d ∈ l,tokC d = true:=by
 unfold tokS at h
 simp only [Bool.and_eq_true,Bool.not_eq_true',List.all_eq_true] at h
 cases l with
 | nil=>exact absurd h.1 (by simp)
 | cons c r=>exact ⟨c,r,rfl,h.2 c List.mem_cons_self,h.2⟩
theorem tokS_mk {l:List UInt8} (h0:l ≠ []) (h:∀ d ∈ l,tokC d = true):tokS l = true:=by
 unfold tokS
 rw [List.all_eq_true.2 h]
 cases l with
 | nil=>exact absurd rfl h0
 | cons c r=>rfl
theorem tokS_small {l:List UInt8} (h:tokS l = true):tokS (smallS l) = true:=by
 obtain ⟨c,r,rfl,_,hall⟩:=tokS_parts h
 refine tokS_mk (by simp [smallS]) fun d hd=>?_
 obtain ⟨e,he,rfl⟩:=List.mem_map.1 hd
 exact (tok_cases e (hall e he)).2.2.2.2.2.2
theorem takeWhile_app {p:UInt8 → Bool} (a b:List UInt8) (ha:∀ c ∈ a,p c = true) (hb:b.head?.all (fun c=>!p c) = true):(a++b).takeWhile p = a∧(a++b).dropWhile p = b:=by
 induction a with
 | nil =>
  cases b with
  | nil=>exact ⟨rfl,rfl⟩
  | cons c b =>
   have hc:p c = false:=by simpa using hb
   simp [hc]
 | cons c a ih =>
  have hc:=ha c List.mem_cons_self
  obtain ⟨i1,i2⟩:=ih fun d hd=>ha d (List.mem_cons_of_mem _ hd)
  rw [List.cons_append,List.takeWhile_cons,List.dropWhile_cons,hc]
  simp [i1,i2]
theorem dropB_tok {l:List UInt8} (h:l.head?.all (fun c=>!blk c) = true):dropB l = l:=dropB_self l h
theorem quoted_esc (v rest:List UInt8) (h:∀ c ∈ v,inC c = true):quotedS (v.flatMap escC++34 :: rest) = some (v,rest):=by
 induction v with
 | nil =>
  show quotedS (34 :: rest) = _
  unfold quotedS
  rw [if_pos rfl]
 | cons c v ih =>
  have hc:=h c List.mem_cons_self
  have hi:=ih fun d hd=>h d (List.mem_cons_of_mem _ hd)
  rw [List.flatMap_cons]
  by_cases h1:c = 34 ∨ c = 92
  ·have e:escC c = [92,c]:=by unfold escC; rw [if_pos h1]
   rw [e]
   show quotedS (92 :: c :: (v.flatMap escC++34 :: rest)) = _
   unfold quotedS
   rw [if_neg (by decide),if_pos rfl]
   simp only [hc,if_true,hi,Option.map_some]
  ·have e:escC c = [c]:=by unfold escC; rw [if_neg h1]
   rw [e]
   show quotedS (c :: (v.flatMap escC++34 :: rest)) = _
   unfold quotedS
   rw [if_neg (fun e=>h1 (.inl e)),if_neg (fun e=>h1 (.inr e))]
   simp only [hc,if_true,hi,Option.map_some]
def Ends (l:List UInt8):Prop:=l = [] ∨ ∃ r,l = 59 :: r
theorem Ends.tok {l:List UInt8} (h:Ends l):l.head?.all (fun c=>!tokC c) = true:=by
 rcases h with rfl | ⟨r,rfl⟩
 ·rfl
 ·rfl
theorem Ends.blk {l:List UInt8} (h:Ends l):dropB l = l:=by
 rcases h with rfl | ⟨r,rfl⟩
 ·rfl
 ·rfl
theorem ends_params (l:List PB):Ends (l.flatMap paramW):=by
 cases l with
 | nil=>exact .inl rfl
 | cons p l=>exact .inr ⟨_,rfl⟩
theorem value_back (nm v rest:List UInt8) (hv:∀ c ∈ v,inC c = true) (he:Ends rest):valueP nm (dropB (valW v++rest)) = some ((smallS nm,v),rest):=by
 unfold valW
 by_cases ht:tokS v = true
 ·rw [if_pos ht]
  obtain ⟨c,r,hcr,hc,hall⟩:=tokS_parts ht
  obtain ⟨i1,i2⟩:=takeWhile_app v rest hall he.tok
  have hh:(v++rest).head? = some c:=by rw [hcr]; rfl
  have hd:dropB (v++rest) = v++rest:=dropB_tok (by rw [hh]; simp [(tok_cases c hc).1])
  rw [hd]
  unfold valueP
  rw [hh,if_neg (fun e=>(tok_cases c hc).2.2.2.1 (Option.some.inj e)),i1,i2,if_neg (by rw [hcr]; simp),he.blk]
 ·rw [if_neg ht]
  have hd:dropB (34 :: (v.flatMap escC++[34])++rest) = 34 :: (v.flatMap escC++[34])++rest:=rfl
  rw [hd]
  unfold valueP
  have hh:(34 :: (v.flatMap escC++[34])++rest).head? = some 34:=rfl
  rw [if_pos hh]
  have e:(34 :: (v.flatMap escC++[34])++rest).drop 1 = v.flatMap escC++34 :: rest:=by simp
  rw [e,quoted_esc v rest hv,Option.map_some,he.blk]
theorem one_back (p:PB) (h:goodP p = true) (rest:List UInt8) (he:Ends rest):oneP (32 :: p.1++[61]++valW p.2++rest) = some (p,rest):=by
 unfold goodP at h
 simp only [Bool.and_eq_true,decide_eq_true_eq,List.all_eq_true] at h
 obtain ⟨⟨ht,hs⟩,hv⟩:=h
 obtain ⟨c,r,hcr,hc,hall⟩:=tokS_parts ht
 have e1:dropB (32 :: p.1++[61]++valW p.2++rest) = p.1++(61 :: (valW p.2++rest)):=by
  have e:(32 :: p.1++[61]++valW p.2++rest:List UInt8) = 32 :: (p.1++(61 :: (valW p.2++rest))):=by simp
  rw [e]
  show dropB (p.1++(61 :: (valW p.2++rest))) = _
  exact dropB_tok (by rw [hcr]; simp [(tok_cases c hc).1])
 obtain ⟨i1,i2⟩:=takeWhile_app p.1 (61 :: (valW p.2++rest)) hall rfl
 unfold oneP
 rw [e1,i1,i2,if_neg (by rw [hcr]; simp)]
 have e2:dropB (61 :: (valW p.2++rest)) = 61 :: (valW p.2++rest):=rfl
 have hh:(61 :: (valW p.2++rest)).head? = some 61:=rfl
 rw [e2,if_pos hh]
 show valueP p.1 (dropB (valW p.2++rest)) = _
 rw [value_back p.1 p.2 rest hv he,hs]
theorem params_back (l:List PB) (h:l.all goodP = true):∀ n,l.length ≤ n → paramsF n (l.flatMap paramW) = some l:=by
 induction l with
 | nil=>intro n _; cases n <;> rfl
 | cons p l ih =>
  intro n hn
  simp only [List.all_cons,Bool.and_eq_true] at h
  obtain ⟨m,rfl⟩:∃ m,n = m+1:=⟨n - 1,by simp at hn; omega⟩
  have hm:l.length ≤ m:=by simpa using hn
  have e:(p :: l).flatMap paramW = 59 :: (32 :: p.1++[61]++valW p.2++l.flatMap paramW):=by simp [paramW]
  rw [e]
  unfold paramsF
  have hh:(59 :: (32 :: p.1++[61]++valW p.2++l.flatMap paramW)).head? = some 59:=rfl
  rw [if_neg (by simp),if_pos hh]
  show (oneP (32 :: p.1++[61]++valW p.2++l.flatMap paramW)).bind _ = _
  rw [one_back p h.1 _ (ends_params l)]
  simp only [Option.bind_some,ih h.2 m hm,Option.map_some]
theorem main_ends (m:List UInt8) (h:isMainS m = true):m ≠ []∧(∀ c ∈ m,tokC c = true ∨ c = 47)∧m.head?.all (fun c=>!blk c) = true∧m.getLast?.all (fun c=>!blk c) = true:=by
 unfold isMainS at h
 simp only [Bool.and_eq_true,Bool.or_eq_true] at h
 obtain ⟨h1,h2⟩:=h
 obtain ⟨c,r,hcr,hc,hall⟩:=tokS_parts h1
 have hsplit:=List.takeWhile_append_dropWhile (p:=fun x:UInt8=>x != 47) (l:=m)
 have hne:m ≠ []:=by
  intro e
  rw [e] at hcr
  simp at hcr
 have hmem:∀ c ∈ m,tokC c = true ∨ c = 47:=by
  intro d hd
  rw [← hsplit] at hd
  rcases List.mem_append.1 hd with hd | hd
  ·exact .inl (hall d hd)
  ·rcases h2 with h2 | h2
   ·have:m.dropWhile (· != 47) = []:=List.isEmpty_iff.1 h2
    rw [this] at hd
    simp at hd
   ·cases hw:m.dropWhile (· != 47) with
    | nil=>rw [hw] at hd; simp at hd
    | cons a b =>
     rw [hw] at hd h2
     have ha:a = 47:=by
      have:=List.head_dropWhile_not (fun x:UInt8=>x != 47) (l:=m) (by rw [hw]; simp)
      simp only [hw,List.head_cons] at this
      simpa using this
     rcases List.mem_cons.1 hd with rfl | hd
     ·exact .inr ha
     ·obtain ⟨_,_,_,_,hall2⟩:=tokS_parts h2
      exact .inl (hall2 d hd)
 have hnb:∀ c ∈ m,blk c = false:=fun d hd=>by
  rcases hmem d hd with h | rfl
  ·exact (tok_cases d h).1
  ·rfl
 refine ⟨hne,hmem,?_,?_⟩
 ·cases hh:m.head? with
  | none=>rfl
  | some d=>simp [hnb d (List.mem_of_mem_head? hh)]
 ·cases hh:m.getLast? with
  | none=>rfl
  | some d=>simp [hnb d (List.mem_of_getLast? hh)]
theorem kind_back (m:List UInt8) (l:List PB) (h:goodK m l = true):readK (writeK m l) = some (m,l):=by
 unfold goodK goodM at h
 simp only [Bool.and_eq_true,decide_eq_true_eq] at h
 obtain ⟨⟨hm,hs⟩,hl⟩:=h
 obtain ⟨_,hmem,e1,e2⟩:=main_ends m hm
 have hp:∀ c ∈ m,(c != 59) = true:=fun c hc=>by
  rcases hmem c hc with h | rfl
  ·simpa using (tok_cases c h).2.1
  ·rfl
 have hq:(l.flatMap paramW).head?.all (fun c=>!(c != 59)) = true:=by
  rcases ends_params l with e | ⟨r,e⟩
  ·rw [e]; rfl
  ·rw [e]; rfl
 obtain ⟨i1,i2⟩:=takeWhile_app (p:=fun c=>c != 59) m (l.flatMap paramW) hp hq
 have ht:trimS m = m:=(trim_iff m).2 ⟨e1,e2⟩
 have hlen:l.length ≤ (m++l.flatMap paramW).length:=by
  rw [List.length_append]
  have:∀ l:List PB,l.length ≤ (l.flatMap paramW).length:=by
   intro l
   induction l with
   | nil=>simp
   | cons p l ih =>
    rw [List.flatMap_cons,List.length_append,List.length_cons]
    have:1 ≤ (paramW p).length:=by simp [paramW]
    omega
  have:=this l
  omega
 unfold readK writeK
 rw [i1,i2,ht,hs,if_pos hm,params_back l hl _ hlen]; rfl
theorem quoted_in (l:List UInt8):∀ n,l.length ≤ n → ∀ v r,quotedS l = some (v,r) → v.all inC = true:=by
 intro n
 induction n generalizing l with
 | zero =>
  intro h v r hq
  have:l = []:=List.eq_nil_of_length_eq_zero (by omega)
  subst this
  cases hq
 | succ n ih =>
  intro h v r hq
  cases l with
  | nil=>cases hq
  | cons c t =>
   rw [List.length_cons] at h
   unfold quotedS at hq
   by_cases h1:c = 34
   ·rw [if_pos h1] at hq
    simp only [Option.some.injEq,Prod.mk.injEq] at hq
    rw [← hq.1]; rfl
   ·rw [if_neg h1] at hq
    by_cases h2:c = 92
    ·rw [if_pos h2] at hq
     cases t with
     | nil=>cases hq
     | cons d t' =>
      simp only at hq
      by_cases h3:inC d = true
      ·rw [if_pos h3] at hq
       obtain ⟨q,hq1,hq2⟩:=Option.map_eq_some_iff.1 hq
       simp only [Prod.mk.injEq] at hq2
       rw [← hq2.1,List.all_cons,h3,ih t' (by simp at h; omega) q.1 q.2 hq1]; rfl
      ·rw [if_neg h3] at hq; cases hq
    ·rw [if_neg h2] at hq
     by_cases h3:inC c = true
     ·rw [if_pos h3] at hq
      obtain ⟨q,hq1,hq2⟩:=Option.map_eq_some_iff.1 hq
      simp only [Prod.mk.injEq] at hq2
      rw [← hq2.1,List.all_cons,h3,ih t (by omega) q.1 q.2 hq1]; rfl
     ·rw [if_neg h3] at hq; cases hq
theorem takeWhile_all {p:UInt8 → Bool} (l:List UInt8):∀ c ∈ l.takeWhile p,p c = true:=by
 intro c hc
 have:=List.all_takeWhile (p:=p) (l:=l)
 exact List.all_eq_true.1 this c hc
theorem value_good (nm r5:List UInt8) (hn:tokS nm = true) (p:PB) (r:List UInt8) (h:valueP nm r5 = some (p,r)):goodP p = true:=by
 have hnm:tokS (smallS nm) = true∧smallS (smallS nm) = smallS nm:=⟨tokS_small hn,smallS_idem nm⟩
 unfold valueP at h
 split at h
 ·obtain ⟨q,hq1,hq2⟩:=Option.map_eq_some_iff.1 h
  simp only [Prod.mk.injEq] at hq2
  rw [← hq2.1]
  unfold goodP
  rw [hnm.1,decide_eq_true hnm.2,quoted_in _ _ (Nat.le_refl _) q.1 q.2 hq1]; rfl
 ·split at h
  ·cases h
  ·simp only [Option.some.injEq,Prod.mk.injEq] at h
   rw [← h.1]
   unfold goodP
   have:(r5.takeWhile tokC).all inC = true:=List.all_eq_true.2 fun c hc=>(tok_cases c (takeWhile_all r5 c hc)).2.2.2.2.2.1
   rw [hnm.1,decide_eq_true hnm.2,this]; rfl
theorem one_good (r:List UInt8) (p:PB) (r':List UInt8) (h:oneP r = some (p,r')):goodP p = true:=by
 unfold oneP at h
 split at h
 ·cases h
 ·rename_i hne
  split at h
  ·exact value_good _ _ (tokS_mk hne (takeWhile_all _)) p r' h
  ·cases h
theorem params_good:∀ (n:Nat) (l:List UInt8) (k:List PB),paramsF n l = some k → k.all goodP = true
 | 0,l,k,h=>by
  unfold paramsF at h
  split at h
  ·cases h; rfl
  ·cases h
 | n+1,l,k,h=>by
  unfold paramsF at h
  split at h
  ·cases h; rfl
  ·split at h
   ·obtain ⟨q,hq1,hq2⟩:=Option.bind_eq_some_iff.1 h
    obtain ⟨k',hk1,hk2⟩:=Option.map_eq_some_iff.1 hq2
    rw [← hk2,List.all_cons,one_good _ q.1 q.2 hq1,params_good n _ k' hk1]; rfl
   ·cases h
theorem kind_good (s m:List UInt8) (l:List PB) (h:readK s = some (m,l)):goodK m l = true:=by
 unfold readK at h
 split at h
 ·rename_i hm
  obtain ⟨k,hk1,hk2⟩:=Option.map_eq_some_iff.1 h
  simp only [Prod.mk.injEq] at hk2
  obtain ⟨rfl,rfl⟩:=hk2
  unfold goodK goodM
  rw [hm,decide_eq_true (smallS_idem _),params_good _ _ _ hk1]; rfl
 ·cases h
end Go.Proofs.YtknhacbfddggpaaGreatDoor
namespace Go.Proofs.YtknhacbfddggpaaGreatDoor
open Go.RowKit
def consHead (c:UInt8):List (List UInt8) → List (List UInt8)
 | []=>[[c]]
 | x :: r=>(c :: x) :: r
def splitC:List UInt8 → List (List UInt8)
 | []=>[[]]
 | [c]=>[[c]]
 | c :: d :: t=>if c = 13∧d = 10 then [] :: splitC t else consHead c (splitC (d :: t))
theorem splitC_cut (t:List UInt8):splitC (13 :: 10 :: t) = [] :: splitC t:=by
 conv=>lhs; unfold splitC
 rw [if_pos ⟨rfl,rfl⟩]
theorem splitC_char (c d:UInt8) (t:List UInt8) (h:¬ (c = 13∧d = 10)):splitC (c :: d :: t) = consHead c (splitC (d :: t)):=by
 conv=>lhs; unfold splitC
 rw [if_neg h]
def joinC:List (List UInt8) → List UInt8
 | []=>[]
 | [x]=>x
 | x :: y :: r=>x++13 :: 10 :: joinC (y :: r)
theorem splitC_ne:∀ l:List UInt8,splitC l ≠ []
 | []=>by simp [splitC]
 | [c]=>by simp [splitC]
 | c :: d :: t=>by
  unfold splitC
  split
  ·simp
  ·cases splitC (d :: t) <;> simp [consHead]
theorem joinC_cons (x:List UInt8) (r:List (List UInt8)) (h:r ≠ []):joinC (x :: r) = x++13 :: 10 :: joinC r:=by
 cases r with
 | nil=>exact absurd rfl h
 | cons y r=>rfl
theorem join_consHead (c:UInt8) (l:List (List UInt8)) (h:l ≠ []):joinC (consHead c l) = c :: joinC l:=by
 cases l with
 | nil=>exact absurd rfl h
 | cons x r =>
  unfold consHead
  cases r with
  | nil=>rfl
  | cons y r =>
   have e1:joinC ((c :: x) :: y :: r) = (c :: x)++13 :: 10 :: joinC (y :: r):=rfl
   have e2:joinC (x :: y :: r) = x++13 :: 10 :: joinC (y :: r):=rfl
   rw [e1,e2]; rfl
theorem joinC_split:∀ l:List UInt8,joinC (splitC l) = l
 | []=>rfl
 | [c]=>rfl
 | c :: d :: t=>by
  unfold splitC
  split
  ·rename_i h
   rw [joinC_cons _ _ (splitC_ne t),joinC_split t,h.1,h.2]; rfl
  ·rw [join_consHead _ _ (splitC_ne _),joinC_split (d :: t)]
theorem splitC_in:∀ (l x:List UInt8),x ∈ splitC l → ∃ u v,l = u++x++v
 | [],x,h=>by
  simp [splitC] at h
  subst h
  exact ⟨[],[],rfl⟩
 | [c],x,h=>by
  simp [splitC] at h
  subst h
  exact ⟨[],[],rfl⟩
 | c :: d :: t,x,h=>by
  unfold splitC at h
  split at h
  ·rename_i hcd
   rcases List.mem_cons.1 h with rfl | h
   ·exact ⟨[],c :: d :: t,rfl⟩
   ·obtain ⟨u,v,e⟩:=splitC_in t x h
    exact ⟨c :: d :: u,v,by rw [e]; simp⟩
  ·have hne:=splitC_ne (d :: t)
   cases hs:splitC (d :: t) with
   | nil=>exact absurd hs hne
   | cons y r =>
    rw [hs] at h
    rcases List.mem_cons.1 h with rfl | h
    ·have hj:=joinC_split (d :: t)
     rw [hs] at hj
     cases r with
     | nil =>
      refine ⟨[],[],?_⟩
      have:y = d :: t:=hj
      rw [this]; simp
     | cons z r =>
      rw [joinC_cons _ _ (by simp)] at hj
      exact ⟨[],13 :: 10 :: joinC (z :: r),by rw [← hj]; simp⟩
    ·obtain ⟨u,v,e⟩:=splitC_in (d :: t) x (by rw [hs]; exact List.mem_cons_of_mem _ h)
     exact ⟨c :: u,v,by rw [e]; simp⟩
theorem splitC_app:∀ (x t:List UInt8),splitC (x++13 :: 10 :: t) = splitC x++splitC t
 | [],t=>by
  show splitC (13 :: 10 :: t) = _
  conv=>lhs; unfold splitC
  rw [if_pos ⟨rfl,rfl⟩]; rfl
 | [c],t=>by
  show splitC (c :: 13 :: 10 :: t) = _
  conv=>lhs; unfold splitC
  rw [if_neg (fun h=>absurd h.2 (by decide))]
  have:splitC (13 :: 10 :: t) = [] :: splitC t:=by
   conv=>lhs; unfold splitC
   rw [if_pos ⟨rfl,rfl⟩]
  rw [this]; rfl
 | c :: d :: x,t=>by
  show splitC (c :: d :: (x++13 :: 10 :: t)) = _
  by_cases h:c = 13∧d = 10
  ·rw [h.1,h.2,splitC_cut,splitC_cut,splitC_app x t]; rfl
  ·rw [splitC_char _ _ _ h,splitC_char _ _ _ h]
   have:=splitC_app (d :: x) t
   rw [List.cons_append] at this
   rw [this]
   cases hs:splitC (d :: x) with
   | nil=>exact absurd hs (splitC_ne _)
   | cons y r=>rfl
def lead (b:List UInt8):List UInt8:=45 :: 45 :: b
def markOf (b x:List UInt8):Option Bool:=
 if (lead b).isPrefixOf x then (if trimS (x.drop (lead b).length) = [] then some false else if trimS (x.drop (lead b).length) = [45,45] then some true else none) else none
def betS (b:List UInt8):List (List UInt8) → Bool → List (List UInt8) → Option (List (List UInt8))
 | [],_,_=>none
 | x :: r,begun,cur=>match markOf b x with
  | none=>betS b r begun (cur++[x])
  | some true=>some (if begun then [joinC cur] else [])
  | some false=>(betS b r true []).map fun o=>if begun then joinC cur :: o else o
def betweenS (b s:List UInt8):Option (List (List UInt8)):=betS b (splitC s) false []
def Apart (sub s:List UInt8):Prop:=∀ u v,s ≠ u++sub++v
theorem mark_none (b x s:List UInt8) (h:Apart (lead b) s) (hx:x ∈ splitC s):markOf b x = none:=by
 unfold markOf
 rw [if_neg]
 intro hp
 obtain ⟨t,ht⟩:=List.isPrefixOf_iff_prefix.1 hp
 obtain ⟨u,v,e⟩:=splitC_in s x hx
 exact h u (t++v) (by rw [e,← ht]; simp)
theorem bet_lines (b:List UInt8) (ls:List (List UInt8)):∀ (r:List (List UInt8)) (begun:Bool) (cur:List (List UInt8)),(∀ x ∈ ls,markOf b x = none) → betS b (ls++r) begun cur = betS b r begun (cur++ls):=by
 induction ls with
 | nil=>intro r begun cur _; simp
 | cons x ls ih =>
  intro r begun cur h
  rw [List.cons_append,betS,h x List.mem_cons_self]
  simp only
  rw [ih r begun _ fun y hy=>h y (List.mem_cons_of_mem _ hy)]
  simp
def pieceW (b x:List UInt8):List UInt8:=lead b++[13,10]++x++[13,10]
def piecesW (b:List UInt8) (xs:List (List UInt8)):List UInt8:=xs.flatMap (pieceW b)++lead b++[45,45,13,10]
theorem lead_line (b:List UInt8) (hb:∀ c ∈ b,c ≠ 13):∀ t:List UInt8,splitC (lead b++[13,10]++t) = lead b :: splitC t:=by
 intro t
 have h1:lead b++[13,10]++t = lead b++13 :: 10 :: t:=by simp
 have hone:∀ l:List UInt8,(∀ c ∈ l,c ≠ 13) → splitC l = [l]:=by
  intro l
  induction l with
  | nil=>intro _; rfl
  | cons c l ih =>
   intro h
   cases l with
   | nil=>rfl
   | cons d l =>
    unfold splitC
    rw [if_neg (fun e=>h c List.mem_cons_self e.1),ih fun e he=>h e (List.mem_cons_of_mem _ he)]; rfl
 rw [h1,splitC_app,hone (lead b) (fun c hc=>by
  unfold lead at hc
  rcases List.mem_cons.1 hc with rfl | hc
  ·decide
  ·rcases List.mem_cons.1 hc with rfl | hc
   ·decide
   ·exact hb c hc)]; rfl
theorem end_line (b:List UInt8) (hb:∀ c ∈ b,c ≠ 13):splitC (lead b++[45,45,13,10]) = [lead b++[45,45],[]]:=by
 have:=lead_line (b++[45,45]) (fun c hc=>by
  rcases List.mem_append.1 hc with hc | hc
  ·exact hb c hc
  ·have:c = 45:=by simpa using hc
   rw [this]; decide) []
 have e:lead b++[45,45,13,10] = lead (b++[45,45])++[13,10]++[]:=by simp [lead]
 rw [e,this]
 simp [lead,splitC]
theorem mark_begin (b:List UInt8):markOf b (lead b) = some false:=by
 unfold markOf
 have:(lead b).isPrefixOf (lead b) = true:=List.isPrefixOf_iff_prefix.2 (List.prefix_refl _)
 have h0:trimS [] = []:=rfl
 rw [if_pos this,List.drop_length,if_pos h0]
theorem mark_end (b:List UInt8):markOf b (lead b++[45,45]) = some true:=by
 unfold markOf
 have:(lead b).isPrefixOf (lead b++[45,45]) = true:=List.isPrefixOf_iff_prefix.2 (List.prefix_append _ _)
 rw [if_pos this,List.drop_left]
 rfl
theorem bet_back (b:List UInt8) (hb:∀ c ∈ b,c ≠ 13):∀ (xs:List (List UInt8)),(∀ x ∈ xs,Apart (lead b) x) → ∀ (begun:Bool) (cur:List (List UInt8)),betS b (splitC (piecesW b xs)) begun cur = some ((if begun then [joinC cur] else [])++xs)
 | [],_,begun,cur=>by
  show betS b (splitC (lead b++[45,45,13,10])) begun cur = _
  rw [end_line b hb,betS,mark_end]
  simp
 | x :: xs,h,begun,cur=>by
  have hx:=h x List.mem_cons_self
  have e:piecesW b (x :: xs) = lead b++[13,10]++(x++13 :: 10 :: piecesW b xs):=by simp [piecesW,pieceW]
  have ih:=bet_back b hb xs (fun y hy=>h y (List.mem_cons_of_mem _ hy)) true (splitC x)
  rw [e,lead_line b hb,splitC_app,betS,mark_begin]
  simp only
  rw [bet_lines b (splitC x) _ true [] (fun y hy=>mark_none b y x hx hy),List.nil_append,ih,joinC_split]
  cases begun <;> simp
theorem between_back (b:List UInt8) (hb:∀ c ∈ b,c ≠ 13) (xs:List (List UInt8)) (h:∀ x ∈ xs,Apart (lead b) x):betweenS b (piecesW b xs) = some xs:=by
 unfold betweenS
 rw [bet_back b hb xs h]; simp
end Go.Proofs.YtknhacbfddggpaaGreatDoor
namespace Go.Proofs.YtknhacbfddggpaaGreatDoor
open Go.RowKit
def ctN:List UInt8:=[99,111,110,116,101,110,116,45,116,121,112,101]
def cteN:List UInt8:=[99,111,110,116,101,110,116,45,116,114,97,110,115,102,101,114,45,101,110,99,111,100,105,110,103]
def cteB:List UInt8:=[67,111,110,116,101,110,116,45,84,114,97,110,115,102,101,114,45,69,110,99,111,100,105,110,103]
def multiN:List UInt8:=[109,117,108,116,105,112,97,114,116,47]
def bdN:List UInt8:=[98,111,117,110,100,97,114,121]
def bit7:List UInt8:=[55,98,105,116]
def bit8:List UInt8:=[56,98,105,116]
def binN:List UInt8:=[98,105,110,97,114,121]
def b64N:List UInt8:=[98,97,115,101,54,52]
def qpN:List UInt8:=[113,117,111,116,101,100,45,112,114,105,110,116,97,98,108,101]
def rightB (f:PB):Bool:=nameS f.1 && saysS f.2
def getB (L:List PB) (n:List UInt8):Option PB:=L.find? fun f=>decide (smallS f.1 = n)
def getPB (ps:List PB):List UInt8:=((ps.find? fun p=>decide (p.1 = bdN)).map (·.2)).getD []
def maniesS (L:List PB):Except Nat (Option (List UInt8)):=
 match getB L ctN with
 | none=>.ok none
 | some f=>match readK f.2 with
  | none=>.error 3
  | some q=>if multiN.isPrefixOf q.1 then (if 1 ≤ (getPB q.2).length∧(getPB q.2).length ≤ 70∧(getPB q.2).getLast? ≠ some 32 then .ok (some (getPB q.2)) else .error 3) else .ok none
def stripH (L:List PB):List PB:=L.filter fun f=>!decide (smallS f.1 = cteN)
def setP (bd:List UInt8):List PB → List PB
 | []=>[]
 | p :: ps=>if p.1 = bdN then (p.1,bd) :: ps else p :: setP bd ps
def newVal (bd v:List UInt8):List UInt8:=match readK v with | some q=>writeK q.1 (setP bd q.2) | none=>[]
def setCT (bd:List UInt8):List PB → List PB
 | []=>[]
 | f :: L=>if smallS f.1 = cteN then setCT bd L else if smallS f.1 = ctN then (f.1,newVal bd f.2) :: stripH L else f :: setCT bd L
def okBd (bd:List UInt8):Prop:=bd ≠ []∧bd.length ≤ 70∧∀ c ∈ bd,tokC c = true
theorem okBd_no13 {bd:List UInt8} (h:okBd bd):∀ c ∈ bd,c ≠ 13:=by
 intro c hc e
 have:=h.2.2 c hc
 rw [e] at this
 exact absurd this (by decide)
theorem okBd_in {bd:List UInt8} (h:okBd bd):bd.all inC = true:=by
 rw [List.all_eq_true]
 intro c hc
 exact (tok_cases c (h.2.2 c hc)).2.2.2.2.2.1
theorem okBd_last {bd:List UInt8} (h:okBd bd):bd.getLast? ≠ some 32:=by
 intro e
 have:=h.2.2 32 (List.mem_of_getLast? e)
 exact absurd this (by decide)
theorem setP_good (bd:List UInt8) (h:bd.all inC = true) (ps:List PB) (hp:ps.all goodP = true):(setP bd ps).all goodP = true:=by
 induction ps with
 | nil=>rfl
 | cons p ps ih =>
  simp only [List.all_cons,Bool.and_eq_true] at hp
  unfold setP
  split
  ·simp only [List.all_cons,Bool.and_eq_true]
   refine ⟨?_,hp.2⟩
   have:=hp.1
   unfold goodP at this ⊢
   simp only [Bool.and_eq_true] at this ⊢
   exact ⟨this.1,h⟩
  ·simp only [List.all_cons,Bool.and_eq_true]
   exact ⟨hp.1,ih hp.2⟩
theorem setP_again (b1 b2:List UInt8) (ps:List PB):setP b1 (setP b2 ps) = setP b1 ps:=by
 induction ps with
 | nil=>rfl
 | cons p ps ih =>
  by_cases h:p.1 = bdN
  ·simp [setP,h]
  ·simp [setP,h,ih]
theorem getP_set (bd:List UInt8) (ps:List PB) (h:getPB ps ≠ []):getPB (setP bd ps) = bd:=by
 induction ps with
 | nil=>exact absurd rfl h
 | cons p ps ih =>
  by_cases hp:p.1 = bdN
  ·simp [setP,hp,getPB]
  ·have e1:getPB (p :: ps) = getPB ps:=by simp [getPB,hp]
   rw [e1] at h
   have e2:getPB (setP bd (p :: ps)) = getPB (setP bd ps):=by simp [setP,hp,getPB]
   rw [e2,ih h]
theorem newVal_read (bd v:List UInt8) (m:List UInt8) (ps:List PB) (h:okBd bd) (hr:readK v = some (m,ps)):readK (newVal bd v) = some (m,setP bd ps):=by
 unfold newVal
 rw [hr]
 simp only
 apply kind_back
 have hg:=kind_good v m ps hr
 unfold goodK at hg ⊢
 simp only [Bool.and_eq_true] at hg ⊢
 exact ⟨hg.1,setP_good bd (okBd_in h) ps hg.2⟩
theorem newVal_at (bd v m:List UInt8) (ps:List PB) (hr:readK v = some (m,ps)):newVal bd v = writeK m (setP bd ps):=by unfold newVal; rw [hr]
theorem newVal_again (b1 b2 v:List UInt8) (m:List UInt8) (ps:List PB) (h:okBd b2) (hr:readK v = some (m,ps)):newVal b1 (newVal b2 v) = newVal b1 v:=by
 rw [newVal_at b1 _ m _ (newVal_read b2 v m ps h hr),newVal_at b1 v m ps hr,setP_again]
theorem setCT_cons (bd:List UInt8) (f:PB) (L:List PB):setCT bd (f :: L) = if smallS f.1 = cteN then setCT bd L else if smallS f.1 = ctN then (f.1,newVal bd f.2) :: stripH L else f :: setCT bd L:=rfl
theorem ct_ne:ctN ≠ cteN:=by decide
theorem getB_cons (f:PB) (L:List PB) (n:List UInt8):getB (f :: L) n = if smallS f.1 = n then some f else getB L n:=by
 unfold getB
 rw [List.find?_cons]
 by_cases h:smallS f.1 = n <;> simp [h]
theorem strip_cons (f:PB) (L:List PB):stripH (f :: L) = if smallS f.1 = cteN then stripH L else f :: stripH L:=by
 unfold stripH
 by_cases h:smallS f.1 = cteN <;> simp [h]
theorem getB_strip (L:List PB):getB (stripH L) ctN = getB L ctN:=by
 induction L with
 | nil=>rfl
 | cons f L ih =>
  rw [strip_cons,getB_cons]
  by_cases h:smallS f.1 = cteN
  ·rw [if_pos h,ih,if_neg (by rw [h]; exact Ne.symm ct_ne)]
  ·rw [if_neg h,getB_cons,ih]
theorem getB_strip2 (L:List PB):getB (stripH L) cteN = none:=by
 induction L with
 | nil=>rfl
 | cons f L ih =>
  rw [strip_cons]
  by_cases h:smallS f.1 = cteN
  ·rw [if_pos h,ih]
  ·rw [if_neg h,getB_cons,if_neg h,ih]
theorem getB_set (bd:List UInt8) (L:List PB):getB (setCT bd L) ctN = (getB L ctN).map fun f=>(f.1,newVal bd f.2):=by
 induction L with
 | nil=>rfl
 | cons f L ih =>
  unfold setCT
  rw [getB_cons]
  by_cases h:smallS f.1 = cteN
  ·rw [if_pos h,ih,if_neg (by rw [h]; exact Ne.symm ct_ne)]
  ·rw [if_neg h]
   by_cases h2:smallS f.1 = ctN
   ·rw [if_pos h2,if_pos h2,getB_cons,if_pos h2]; rfl
   ·rw [if_neg h2,if_neg h2,getB_cons,if_neg h2,ih]
theorem getB_append (L:List PB) (f:PB) (n:List UInt8) (h:smallS f.1 ≠ n):getB (L++[f]) n = getB L n:=by
 unfold getB
 rw [List.find?_append]
 simp [h]
theorem strip_strip (L:List PB):stripH (stripH L) = stripH L:=by unfold stripH; rw [List.filter_filter]; simp
theorem strip_append (a b:List PB):stripH (a++b) = stripH a++stripH b:=by unfold stripH; exact List.filter_append ..
theorem set_again (b1 b2:List UInt8) (L:List PB) (h:okBd b2) (hr:∀ f,getB L ctN = some f → (readK f.2).isSome = true):setCT b1 (setCT b2 L) = setCT b1 L:=by
 induction L with
 | nil=>rfl
 | cons f L ih =>
  rw [getB_cons] at hr
  rw [setCT_cons b2,setCT_cons b1]
  by_cases hc:smallS f.1 = cteN
  ·rw [if_pos hc,if_pos hc]
   exact ih fun g hg=>hr g (by rw [if_neg (by rw [hc]; exact Ne.symm ct_ne)]; exact hg)
  ·rw [if_neg hc,if_neg hc]
   by_cases h2:smallS f.1 = ctN
   ·rw [if_pos h2,if_pos h2]
    rw [if_pos h2] at hr
    obtain ⟨q,hq⟩:=Option.isSome_iff_exists.1 (hr f rfl)
    rw [setCT_cons,if_neg hc,if_pos h2,strip_strip,newVal_again b1 b2 f.2 q.1 q.2 h hq]
   ·rw [if_neg h2,if_neg h2,setCT_cons,if_neg hc,if_neg h2]
    rw [if_neg h2] at hr
    rw [ih hr]
theorem manies_read (L:List PB) (o:Option (List UInt8)) (h:maniesS L = .ok o):∀ f,getB L ctN = some f → (readK f.2).isSome = true:=by
 intro f hf
 unfold maniesS at h
 rw [hf] at h
 simp only at h
 cases hr:readK f.2 with
 | none=>rw [hr] at h; cases h
 | some q=>rfl
theorem manies_set (bd b:List UInt8) (L:List PB) (hb:okBd bd) (h:maniesS L = .ok (some b)):maniesS (setCT bd L) = .ok (some bd):=by
 unfold maniesS at h ⊢
 rw [getB_set]
 cases hg:getB L ctN with
 | none=>rw [hg] at h; cases h
 | some f =>
  rw [hg] at h
  simp only [Option.map_some] at h ⊢
  cases hr:readK f.2 with
  | none=>rw [hr] at h; cases h
  | some q =>
   rw [hr] at h
   simp only at h
   rw [newVal_read bd f.2 q.1 q.2 hb hr]
   simp only
   by_cases hm:multiN.isPrefixOf q.1 = true
   ·rw [if_pos hm] at h ⊢
    by_cases hl:1 ≤ (getPB q.2).length∧(getPB q.2).length ≤ 70∧(getPB q.2).getLast? ≠ some 32
    ·have hne:getPB q.2 ≠ []:=List.length_pos_iff.1 hl.1
     rw [getP_set bd q.2 hne,if_pos ⟨List.length_pos_iff.2 hb.1,hb.2.1,okBd_last hb⟩]
    ·rw [if_neg hl] at h; cases h
   ·rw [if_neg hm] at h; cases h
theorem manies_plain (L:List PB) (how:List UInt8):maniesS (stripH L++[(cteB,how)]) = maniesS L:=by
 unfold maniesS
 rw [getB_append _ _ _ (show smallS cteB ≠ ctN by decide),getB_strip]
theorem strip_plain (L:List PB) (how:List UInt8):stripH (stripH L++[(cteB,how)]) = stripH L:=by
 rw [strip_append,strip_strip]
 have:stripH [(cteB,how)] = []:=by rw [strip_cons,if_pos (show smallS cteB = cteN by decide)]; rfl
 rw [this,List.append_nil]
theorem getB_plain (L:List PB) (how:List UInt8):getB (stripH L++[(cteB,how)]) cteN = some (cteB,how):=by
 have h:=getB_strip2 L
 unfold getB at h ⊢
 rw [List.find?_append,h]
 have:decide (smallS cteB = cteN) = true:=by decide
 simp [this]
end Go.Proofs.YtknhacbfddggpaaGreatDoor
namespace Go.Proofs.YtknhacbfddggpaaGreatDoor
open Go.RowKit
theorem in_say (c:UInt8) (h:inC c = true):sayC c = true:=by
 simp only [inC,Bool.and_eq_true,decide_eq_true_eq] at h
 simp only [sayC,Bool.and_eq_true,Bool.or_eq_true,decide_eq_true_eq]
 omega
theorem tok_in (c:UInt8) (h:tokC c = true):inC c = true:=(tok_cases c h).2.2.2.2.2.1
theorem valW_in (v:List UInt8) (h:v.all inC = true):(∀ c ∈ valW v,inC c = true)∧∃ u c,valW v = u++[c]∧blk c = false:=by
 unfold valW
 by_cases ht:tokS v = true
 ·rw [if_pos ht]
  obtain ⟨c0,r,hv,_,hall⟩:=tokS_parts ht
  refine ⟨fun c hc=>tok_in c (hall c hc),v.dropLast,v.getLast (by rw [hv]; simp),(List.dropLast_concat_getLast _).symm,?_⟩
  exact (tok_cases _ (hall _ (List.getLast_mem _))).1
 ·rw [if_neg ht]
  refine ⟨?_,34 :: v.flatMap escC,34,rfl,by decide⟩
  intro c hc
  rcases List.mem_cons.1 hc with rfl | hc
  ·decide
  ·rcases List.mem_append.1 hc with hc | hc
   ·obtain ⟨x,hx,hxc⟩:=List.mem_flatMap.1 hc
    unfold escC at hxc
    have hxi:=List.all_eq_true.1 h x hx
    split at hxc
    ·rcases List.mem_cons.1 hxc with rfl | hxc
     ·decide
     ·have:c = x:=by simpa using hxc
      rw [this]; exact hxi
    ·have:c = x:=by simpa using hxc
     rw [this]; exact hxi
   ·have:c = 34:=by simpa using hc
    rw [this]; decide
theorem write_says (m:List UInt8) (l:List PB) (h:goodK m l = true):saysS (writeK m l) = true:=by
 unfold goodK at h
 simp only [Bool.and_eq_true] at h
 obtain ⟨hm,hl⟩:=h
 unfold goodM at hm
 simp only [Bool.and_eq_true] at hm
 obtain ⟨m0,m1,m2,m3⟩:=main_ends m hm.1
 have hp:∀ p ∈ l,(∀ c ∈ paramW p,inC c = true)∧∃ u c,paramW p = u++[c]∧blk c = false:=by
  intro p hp
  have hg:=List.all_eq_true.1 hl p hp
  unfold goodP at hg
  simp only [Bool.and_eq_true] at hg
  obtain ⟨v1,u,c,hv,hb⟩:=valW_in p.2 hg.2
  obtain ⟨_,_,_,_,ht⟩:=tokS_parts hg.1.1
  refine ⟨?_,[59,32]++p.1++[61]++u,c,by unfold paramW; rw [hv]; simp,hb⟩
  intro d hd
  unfold paramW at hd
  simp only [List.mem_append,List.mem_cons,List.not_mem_nil,or_false] at hd
  rcases hd with (((rfl | rfl) | hd) | rfl) | hd
  ·decide
  ·decide
  ·exact tok_in d (ht d hd)
  ·decide
  ·exact v1 d hd
 unfold saysS
 simp only [Bool.and_eq_true,decide_eq_true_eq]
 constructor
 ·rw [List.all_eq_true]
  intro c hc
  apply in_say
  unfold writeK at hc
  rcases List.mem_append.1 hc with hc | hc
  ·rcases m1 c hc with h | rfl
   ·exact tok_in c h
   ·decide
  ·obtain ⟨p,hpm,hpc⟩:=List.mem_flatMap.1 hc
   exact (hp p hpm).1 c hpc
 ·rw [trim_iff]
  unfold writeK
  constructor
  ·cases m with
   | nil=>exact absurd rfl m0
   | cons a b=>simpa using m2
  ·rcases List.eq_nil_or_concat l with rfl | ⟨l',p,rfl⟩
   ·simpa using m3
   ·obtain ⟨_,u,c,hu,hb⟩:=hp p (by simp)
    simp only [List.concat_eq_append,List.flatMap_append,List.flatMap_cons,List.flatMap_nil,List.append_nil]
    rw [hu,← List.append_assoc,← List.append_assoc,List.getLast?_append]
    simp [hb]
theorem right_strip (L:List PB) (h:L.all rightB = true):(stripH L).all rightB = true:=by
 rw [List.all_eq_true] at h ⊢
 intro f hf
 exact h f (List.mem_filter.1 hf).1
theorem right_set (bd:List UInt8) (hb:okBd bd) (L:List PB) (h:L.all rightB = true) (hr:∀ f,getB L ctN = some f → (readK f.2).isSome = true):(setCT bd L).all rightB = true:=by
 induction L with
 | nil=>rfl
 | cons f L ih =>
  simp only [List.all_cons,Bool.and_eq_true] at h
  rw [getB_cons] at hr
  rw [setCT_cons]
  by_cases hc:smallS f.1 = cteN
  ·rw [if_pos hc]
   exact ih h.2 fun g hg=>hr g (by rw [if_neg (by rw [hc]; exact Ne.symm ct_ne)]; exact hg)
  ·rw [if_neg hc]
   by_cases h2:smallS f.1 = ctN
   ·rw [if_pos h2] at hr ⊢
    obtain ⟨q,hq⟩:=Option.isSome_iff_exists.1 (hr f rfl)
    simp only [List.all_cons,Bool.and_eq_true]
    refine ⟨?_,right_strip L h.2⟩
    have h1:=h.1
    unfold rightB at h1 ⊢
    simp only [Bool.and_eq_true] at h1 ⊢
    refine ⟨h1.1,?_⟩
    rw [newVal_at bd f.2 q.1 q.2 hq]
    apply write_says
    have hg:=kind_good f.2 q.1 q.2 hq
    unfold goodK at hg ⊢
    simp only [Bool.and_eq_true] at hg ⊢
    exact ⟨hg.1,setP_good bd (okBd_in hb) q.2 hg.2⟩
   ·rw [if_neg h2] at hr ⊢
    simp only [List.all_cons,Bool.and_eq_true]
    exact ⟨h.1,ih h.2 hr⟩
structure Beneath where
 hw:List PB → List UInt8
 hr:List UInt8 → Except Nat (List PB × List UInt8)
 pk:List UInt8 → List UInt8
 up:List UInt8 → Option (List UInt8)
 qt:List UInt8 → List UInt8
 uq:List UInt8 → Option (List UInt8)
 bnd:List (List UInt8) → List UInt8
 back:∀ L rest,L.all rightB = true → hr (hw L++rest) = .ok (L,rest)
 good:∀ s L rest,hr s = .ok (L,rest) → L.all rightB = true
 up_pk:∀ b,up (pk b) = some b
 uq_qt:∀ b,uq (qt b) = some b
 bok:∀ xs,xs.flatten.length ≤ 20000 → okBd (bnd xs)
 bap:∀ xs,∀ x ∈ xs,Apart (lead (bnd xs)) x
def asIsS:List UInt8 → Bool
 | []=>true
 | [c]=>inC c || c == 9
 | c :: d :: r=>if c = 13∧d = 10 then asIsS r else (inC c || c == 9) && asIsS (d :: r)
def howW (Y:Beneath) (b:List UInt8):List UInt8 × List UInt8:=if asIsS b then (bit7,b) else if (Y.pk b).length < (Y.qt b).length then (b64N,Y.pk b) else (qpN,Y.qt b)
def someOr (e:Nat):Option (List UInt8) → Except Nat (List UInt8)
 | none=>.error e
 | some b=>.ok b
def decodeS (Y:Beneath) (L:List PB) (body:List UInt8):Except Nat (List UInt8):=
 match getB L cteN with
 | none=>.ok body
 | some f=>if smallS f.2 = bit7 ∨ smallS f.2 = bit8 ∨ smallS f.2 = binN then .ok body else if smallS f.2 = b64N then someOr 3 (Y.up body) else if smallS f.2 = qpN then someOr 3 (Y.uq body) else .error 5
inductive PT
 | mk (head:List PB) (body:List UInt8) (many:Bool) (parts:List PT)
def allG {α β:Type} (f:Nat → α → Except Nat (β × Nat)):List α → Nat → Except Nat (List β × Nat)
 | [],n=>.ok ([],n)
 | x :: xs,n=>match f n x with
  | .error e=>.error e
  | .ok q=>match allG f xs q.2 with
   | .error e=>.error e
   | .ok r=>.ok (q.1 :: r.1,r.2)
def readT (Y:Beneath):Nat → Nat → List UInt8 → Except Nat (PT × Nat)
 | 0,_,_=>.error 4
 | d+1,n,s=>if 40 ≤ n then .error 4 else match Y.hr s with
  | .error e=>.error e
  | .ok h=>match maniesS h.1 with
   | .error e=>.error e
   | .ok none=>match decodeS Y h.1 h.2 with
    | .error e=>.error e
    | .ok b=>.ok (.mk h.1 b false [],n+1)
   | .ok (some b)=>match betweenS b h.2 with
    | none=>.error 3
    | some xs=>match allG (readT Y d) xs (n+1) with
     | .error e=>.error e
     | .ok r=>.ok (.mk h.1 [] true r.1,r.2)
def writeT (Y:Beneath):Nat → Nat → PT → Except Nat (List UInt8 × Nat)
 | 0,_,_=>.error 4
 | d+1,n,.mk L b many ps=>if 40 ≤ n then .error 4 else match maniesS L with
  | .error _=>.error 1
  | .ok o=>if L.all rightB = true∧o.isSome = many∧(many = true → b = [])∧(many = false → ps = []) then
    match allG (writeT Y d) ps (n+1) with
    | .error e=>.error e
    | .ok r=>if many = true then .ok (Y.hw (setCT (Y.bnd r.1) L)++piecesW (Y.bnd r.1) r.1,r.2) else .ok (Y.hw (stripH L++[(cteB,(howW Y b).1)])++(howW Y b).2,r.2)
   else .error 1
def blankCT:List PB → List PB
 | []=>[]
 | f :: L=>if smallS f.1 = cteN then blankCT L else if smallS f.1 = ctN then (f.1,[]) :: stripH L else f :: blankCT L
def oursH (many:Bool) (L:List PB):List PB:=if many then blankCT L else stripH L
mutual
inductive Likes:PT → PT → Prop
 | mk (L L':List PB) (b:List UInt8) (many:Bool) (ps ps':List PT):oursH many L = oursH many L' → LikesL ps ps' → Likes (.mk L b many ps) (.mk L' b many ps')
inductive LikesL:List PT → List PT → Prop
 | nil:LikesL [] []
 | cons (p q:PT) (ps qs:List PT):Likes p q → LikesL ps qs → LikesL (p :: ps) (q :: qs)
end
theorem blank_set (bd:List UInt8) (L:List PB):blankCT (setCT bd L) = blankCT L:=by
 have hc:∀ (f:PB) (L:List PB),blankCT (f :: L) = if smallS f.1 = cteN then blankCT L else if smallS f.1 = ctN then (f.1,[]) :: stripH L else f :: blankCT L:=fun _ _=>rfl
 induction L with
 | nil=>rfl
 | cons f L ih =>
  rw [setCT_cons,hc]
  by_cases h:smallS f.1 = cteN
  ·rw [if_pos h,if_pos h,ih]
  ·rw [if_neg h,if_neg h]
   by_cases h2:smallS f.1 = ctN
   ·rw [if_pos h2,if_pos h2,hc,if_neg h,if_pos h2,strip_strip]
   ·rw [if_neg h2,if_neg h2,hc,if_neg h,if_neg h2,ih]
theorem decode_how (Y:Beneath) (L:List PB) (b:List UInt8):decodeS Y (stripH L++[(cteB,(howW Y b).1)]) (howW Y b).2 = .ok b:=by
 unfold decodeS
 rw [getB_plain]
 simp only
 unfold howW
 split
 ·rw [if_pos (.inl (show smallS bit7 = bit7 by decide))]
 ·split
  ·rw [if_neg (show ¬ (smallS b64N = bit7 ∨ smallS b64N = bit8 ∨ smallS b64N = binN) by decide),if_pos (show smallS b64N = b64N by decide)]
   show someOr 3 (Y.up (Y.pk b)) = _
   rw [Y.up_pk]; rfl
  ·rw [if_neg (show ¬ (smallS qpN = bit7 ∨ smallS qpN = bit8 ∨ smallS qpN = binN) by decide),if_neg (show ¬ smallS qpN = b64N by decide),if_pos (show smallS qpN = qpN by decide)]
   show someOr 3 (Y.uq (Y.qt b)) = _
   rw [Y.uq_qt]; rfl
theorem right_how (Y:Beneath) (L:List PB) (b:List UInt8) (h:L.all rightB = true):(stripH L++[(cteB,(howW Y b).1)]).all rightB = true:=by
 rw [List.all_append,right_strip L h]
 have:∀ x,x = bit7 ∨ x = b64N ∨ x = qpN → rightB (cteB,x) = true:=by rintro x (rfl | rfl | rfl) <;> decide
 simp only [List.all_cons,List.all_nil,Bool.and_true,Bool.true_and]
 apply this
 unfold howW
 split
 ·exact .inl rfl
 ·split
  ·exact .inr (.inl rfl)
  ·exact .inr (.inr rfl)
end Go.Proofs.YtknhacbfddggpaaGreatDoor
namespace Go.Proofs.YtknhacbfddggpaaGreatDoor
open Go.RowKit
theorem allG_cons {α β:Type} (f:Nat → α → Except Nat (β × Nat)) (x:α) (xs:List α) (n:Nat):allG f (x :: xs) n = match f n x with
  | .error e=>.error e
  | .ok q=>match allG f xs q.2 with
   | .error e=>.error e
   | .ok r=>.ok (q.1 :: r.1,r.2):=rfl
theorem allG_ok {α β:Type} (f:Nat → α → Except Nat (β × Nat)) (x:α) (xs:List α) (n n':Nat) (ys:List β) (h:allG f (x :: xs) n = .ok (ys,n')):∃ y k zs,f n x = .ok (y,k)∧allG f xs k = .ok (zs,n')∧ys = y :: zs:=by
 rw [allG_cons] at h
 cases h1:f n x with
 | error e=>rw [h1] at h; cases h
 | ok q =>
  rw [h1] at h
  simp only at h
  cases h2:allG f xs q.2 with
  | error e=>rw [h2] at h; cases h
  | ok r =>
   rw [h2] at h
   simp only [Except.ok.injEq,Prod.mk.injEq] at h
   exact ⟨q.1,q.2,r.1,rfl,by rw [h2,← h.2],h.1.symm⟩
theorem allG_mk {α β:Type} (f:Nat → α → Except Nat (β × Nat)) (x:α) (xs:List α) (n k n':Nat) (y:β) (zs:List β) (h1:f n x = .ok (y,k)) (h2:allG f xs k = .ok (zs,n')):allG f (x :: xs) n = .ok (y :: zs,n'):=by
 rw [allG_cons,h1]
 simp only
 rw [h2]
theorem write_forms (Y:Beneath) (d n n':Nat) (L:List PB) (b:List UInt8) (many:Bool) (ps:List PT) (s:List UInt8) (h:writeT Y (d+1) n (.mk L b many ps) = .ok (s,n')) :
  n < 40∧L.all rightB = true∧((many = true∧b = []∧∃ b0 xs,maniesS L = .ok (some b0)∧allG (writeT Y d) ps (n+1) = .ok (xs,n')∧s = Y.hw (setCT (Y.bnd xs) L)++piecesW (Y.bnd xs) xs)
   ∨ (many = false∧ps = []∧maniesS L = .ok none∧n' = n+1∧s = Y.hw (stripH L++[(cteB,(howW Y b).1)])++(howW Y b).2)):=by
 unfold writeT at h
 by_cases hn:40 ≤ n
 ·rw [if_pos hn] at h; cases h
 ·rw [if_neg hn] at h
  cases hm:maniesS L with
  | error e=>rw [hm] at h; cases h
  | ok o =>
   rw [hm] at h
   simp only at h
   by_cases hc:L.all rightB = true∧o.isSome = many∧(many = true → b = [])∧(many = false → ps = [])
   ·rw [if_pos hc] at h
    obtain ⟨c1,c2,c3,c4⟩:=hc
    refine ⟨by omega,c1,?_⟩
    cases ha:allG (writeT Y d) ps (n+1) with
    | error e=>rw [ha] at h; cases h
    | ok r =>
     rw [ha] at h
     simp only at h
     cases many with
     | true =>
      rw [if_pos rfl] at h
      simp only [Except.ok.injEq,Prod.mk.injEq] at h
      obtain ⟨b0,hb0⟩:=Option.isSome_iff_exists.1 c2
      exact .inl ⟨rfl,c3 rfl,b0,r.1,by rw [hb0],by rw [← h.2],h.1.symm⟩
     | false =>
      rw [if_neg (by simp)] at h
      simp only [Except.ok.injEq,Prod.mk.injEq] at h
      have hp:=c4 rfl
      rw [hp] at ha
      have ha:Except.ok ([],n+1) = Except.ok r:=ha
      have hr:r = ([],n+1):=by
       simp only [Except.ok.injEq] at ha
       exact ha.symm
      have ho:o = none:=by
       cases o with
       | none=>rfl
       | some x=>cases c2
      exact .inr ⟨rfl,hp,by rw [ho],by rw [← h.2,hr],h.1.symm⟩
   ·rw [if_neg hc] at h; cases h
theorem write_many (Y:Beneath) (d n n':Nat) (L:List PB) (b0:List UInt8) (ps:List PT) (xs:List (List UInt8)) (hn:n < 40) (hL:L.all rightB = true) (hm:maniesS L = .ok (some b0)) (ha:allG (writeT Y d) ps (n+1) = .ok (xs,n')) :
  writeT Y (d+1) n (.mk L [] true ps) = .ok (Y.hw (setCT (Y.bnd xs) L)++piecesW (Y.bnd xs) xs,n'):=by
 unfold writeT
 rw [if_neg (by omega),hm]
 simp only
 rw [if_pos ⟨hL,rfl,fun _=>trivial,fun h=>by cases h⟩,ha]
 simp only
 rw [if_pos trivial]
theorem write_one (Y:Beneath) (d n:Nat) (L:List PB) (b:List UInt8) (hn:n < 40) (hL:L.all rightB = true) (hm:maniesS L = .ok none) :
  writeT Y (d+1) n (.mk L b false []) = .ok (Y.hw (stripH L++[(cteB,(howW Y b).1)])++(howW Y b).2,n+1):=by
 unfold writeT
 rw [if_neg (by omega),hm]
 simp only
 rw [if_pos ⟨hL,rfl,(fun h=>by cases h),fun _=>trivial⟩]
 rfl
theorem flatten_le (xs:List (List UInt8)) (b:List UInt8):xs.flatten.length ≤ (piecesW b xs).length:=by
 have:xs.flatten.length ≤ (xs.flatMap (pieceW b)).length:=by
  induction xs with
  | nil=>simp
  | cons x xs ih =>
   rw [List.flatten_cons,List.flatMap_cons,List.length_append,List.length_append]
   have:x.length ≤ (pieceW b x).length:=by unfold pieceW; simp only [List.length_append]; omega
   omega
 unfold piecesW
 simp only [List.length_append]
 omega
theorem read_writes (Y:Beneath):∀ (d n:Nat) (s:List UInt8) (p:PT) (n':Nat),readT Y d n s = .ok (p,n') → ∃ t,writeT Y d n p = .ok (t,n')
 | 0,n,s,p,n',h=>by cases h
 | d+1,n,s,p,n',h=>by
  unfold readT at h
  by_cases hn:40 ≤ n
  ·rw [if_pos hn] at h; cases h
  ·rw [if_neg hn] at h
   cases hh:Y.hr s with
   | error e=>rw [hh] at h; cases h
   | ok q =>
    rw [hh] at h
    simp only at h
    have hL:=Y.good s q.1 q.2 hh
    cases hm:maniesS q.1 with
    | error e=>rw [hm] at h; cases h
    | ok o =>
     rw [hm] at h
     cases o with
     | none =>
      simp only at h
      cases hd:decodeS Y q.1 q.2 with
      | error e=>rw [hd] at h; cases h
      | ok b =>
       rw [hd] at h
       simp only [Except.ok.injEq,Prod.mk.injEq] at h
       obtain ⟨rfl,rfl⟩:=h
       exact ⟨_,write_one Y d n q.1 b (by omega) hL hm⟩
     | some b =>
      simp only at h
      cases hb:betweenS b q.2 with
      | none=>rw [hb] at h; cases h
      | some xs =>
       rw [hb] at h
       simp only at h
       cases ha:allG (readT Y d) xs (n+1) with
       | error e=>rw [ha] at h; cases h
       | ok r =>
        rw [ha] at h
        simp only [Except.ok.injEq,Prod.mk.injEq] at h
        obtain ⟨rfl,rfl⟩:=h
        have hall:∀ (xs:List (List UInt8)) (rs:List PT) (n n':Nat),allG (readT Y d) xs n = .ok (rs,n') → ∃ ts,allG (writeT Y d) rs n = .ok (ts,n'):=by
         intro xs
         induction xs with
         | nil =>
          intro rs n n' h
          have h:Except.ok ([],n) = Except.ok (rs,n'):=h
          simp only [Except.ok.injEq,Prod.mk.injEq] at h
          obtain ⟨rfl,rfl⟩:=h
          exact ⟨[],rfl⟩
         | cons x xs ih =>
          intro rs n n' h
          obtain ⟨y,k,zs,h1,h2,rfl⟩:=allG_ok _ _ _ _ _ _ h
          obtain ⟨t,ht⟩:=read_writes Y d n x y k h1
          obtain ⟨ts,hts⟩:=ih zs k n' h2
          exact ⟨t :: ts,allG_mk _ _ _ _ _ _ _ _ ht hts⟩
        obtain ⟨ts,hts⟩:=hall xs r.1 (n+1) r.2 ha
        exact ⟨_,write_many Y d n r.2 q.1 b r.1 ts (by omega) hL hm hts⟩
end Go.Proofs.YtknhacbfddggpaaGreatDoor
namespace Go.Proofs.YtknhacbfddggpaaGreatDoor
open Go.RowKit
def sumP (ps:List PB):Nat:=(ps.map fun p=>p.1.length+p.2.length+2).sum
theorem sumP_cons (p:PB) (ps:List PB):sumP (p :: ps) = p.1.length+p.2.length+2+sumP ps:=by simp [sumP]
theorem xquoted_len:∀ (r:List UInt8) (q:List UInt8 × List UInt8),quotedS r = some q → q.1.length+q.2.length+1 ≤ r.length
 | [],q,h=>by cases h
 | [c],q,h=>by
  unfold quotedS at h
  split at h
  ·cases h; simp
  ·split at h
   ·cases h
   ·split at h
    ·simp [quotedS] at h
    ·cases h
 | c :: d :: r,q,h=>by
  unfold quotedS at h
  split at h
  ·cases h; simp
  ·split at h
   ·simp only at h
    split at h
    ·simp only [Option.map_eq_some_iff] at h
     obtain ⟨a,ha,rfl⟩:=h
     have:=xquoted_len r a ha
     simp; omega
    ·cases h
   ·split at h
    ·simp only [Option.map_eq_some_iff] at h
     obtain ⟨a,ha,rfl⟩:=h
     have:=xquoted_len (d :: r) a ha
     simp at this ⊢; omega
    ·cases h
theorem xwhile_len (p:UInt8 → Bool) (l:List UInt8):(l.takeWhile p).length+(l.dropWhile p).length = l.length:=by
 conv=>rhs; rw [← List.takeWhile_append_dropWhile (p:=p) (l:=l),List.length_append]
theorem xvalue_len (nm r:List UInt8) (q:PB × List UInt8) (h:valueP nm r = some q):q.1.1.length = nm.length∧q.1.2.length+q.2.length ≤ r.length:=by
 unfold valueP at h
 split at h
 ·simp only [Option.map_eq_some_iff] at h
  obtain ⟨a,ha,rfl⟩:=h
  have h1:=xquoted_len _ a ha
  have h2:=dropB_len a.2
  rw [List.length_drop] at h1
  refine ⟨by simp [smallS],?_⟩
  simp only
  omega
 ·split at h
  ·cases h
  ·cases h
   have h1:=xwhile_len tokC r
   have h2:=dropB_len (r.dropWhile tokC)
   refine ⟨by simp [smallS],?_⟩
   simp only
   omega
theorem xone_len (r:List UInt8) (q:PB × List UInt8) (h:oneP r = some q):q.1.1.length+q.1.2.length+1+q.2.length ≤ r.length:=by
 unfold oneP at h
 split at h
 ·cases h
 ·split at h
  ·rename_i hh
   obtain ⟨h1,h2⟩:=xvalue_len _ _ q h
   have a1:=dropB_len r
   have a2:=xwhile_len tokC (dropB r)
   have a3:=dropB_len ((dropB r).dropWhile tokC)
   have a4:=dropB_len ((dropB ((dropB r).dropWhile tokC)).drop 1)
   have a5:1 ≤ (dropB ((dropB r).dropWhile tokC)).length:=by
    cases hd:dropB ((dropB r).dropWhile tokC) with
    | nil=>rw [hd] at hh; cases hh
    | cons _ _=>simp
   rw [List.length_drop] at a4
   omega
  ·cases h
theorem xparams_len:∀ (n:Nat) (l:List UInt8) (ps:List PB),paramsF n l = some ps → sumP ps ≤ l.length
 | 0,l,ps,h=>by
  unfold paramsF at h
  split at h
  ·cases h; simp [sumP]
  ·cases h
 | n+1,l,ps,h=>by
  unfold paramsF at h
  split at h
  ·cases h; simp [sumP]
  ·split at h
   ·rename_i h0 _
    simp only [Option.bind_eq_some_iff,Option.map_eq_some_iff] at h
    obtain ⟨q,hq,k,hk,rfl⟩:=h
    have h1:=xone_len _ q hq
    have h2:=xparams_len n q.2 k hk
    have h3:=List.length_pos_iff.2 h0
    rw [List.length_drop] at h1
    rw [sumP_cons]
    omega
   ·cases h
theorem xreadK_len (s:List UInt8) (q:List UInt8 × List PB) (h:readK s = some q):q.1.length+sumP q.2 ≤ s.length:=by
 unfold readK at h
 split at h
 ·simp only [Option.map_eq_some_iff] at h
  obtain ⟨k,hk,rfl⟩:=h
  have h1:=xparams_len _ _ _ hk
  have h2:=xwhile_len (· != 59) s
  have h3:=Nat.le_trans (dropE_len (dropB (s.takeWhile (· != 59)))) (dropB_len (s.takeWhile (· != 59)))
  have h4:(smallS (trimS (s.takeWhile (· != 59)))).length = (trimS (s.takeWhile (· != 59))).length:=by simp [smallS]
  have h5:(trimS (s.takeWhile (· != 59))).length ≤ (s.takeWhile (· != 59)).length:=h3
  simp only
  omega
 ·cases h
theorem xesc_len (v:List UInt8):(v.flatMap escC).length ≤ 2 * v.length:=by
 induction v with
 | nil=>simp
 | cons c v ih =>
  rw [List.flatMap_cons,List.length_append,List.length_cons]
  have:(escC c).length ≤ 2:=by unfold escC; split <;> simp
  omega
theorem xparamW_len (p:PB):(paramW p).length ≤ 3 * (p.1.length+p.2.length+2):=by
 unfold paramW valW
 have h:=xesc_len p.2
 split
 ·simp; omega
 ·simp at h ⊢; omega
theorem xwriteK_len (m:List UInt8) (ps:List PB):(writeK m ps).length ≤ m.length+3 * sumP ps:=by
 unfold writeK
 rw [List.length_append]
 have:(ps.flatMap paramW).length ≤ 3 * sumP ps:=by
  induction ps with
  | nil=>simp [sumP]
  | cons p ps ih =>
   rw [List.flatMap_cons,List.length_append,sumP_cons]
   have:=xparamW_len p
   omega
 omega
theorem xsetP_len (bd:List UInt8) (ps:List PB):sumP (setP bd ps) ≤ sumP ps+bd.length:=by
 induction ps with
 | nil=>simp [setP,sumP]
 | cons p ps ih =>
  unfold setP
  split
  ·rw [sumP_cons,sumP_cons]; simp only; omega
  ·rw [sumP_cons,sumP_cons]; omega
theorem xnewVal_len (bd v:List UInt8):(newVal bd v).length ≤ 3 * (v.length+bd.length):=by
 unfold newVal
 cases h:readK v with
 | none=>simp
 | some q =>
  simp only
  have h1:=xreadK_len v q h
  have h2:=xwriteK_len q.1 (setP bd q.2)
  have h3:=xsetP_len bd q.2
  omega
theorem setCT_len (bd:List UInt8) (L:List PB) (a b:Nat) (h:∀ f ∈ L,f.1.length ≤ a∧f.2.length ≤ b):(setCT bd L).length ≤ L.length∧∀ f ∈ setCT bd L,f.1.length ≤ a∧f.2.length ≤ 3 * (b+bd.length):=by
 induction L with
 | nil=>exact ⟨Nat.le_refl _,fun f hf=>absurd hf (by simp [setCT])⟩
 | cons g L ih =>
  have hg:=h g (by simp)
  obtain ⟨i1,i2⟩:=ih fun f hf=>h f (by simp [hf])
  rw [setCT_cons]
  split
  ·exact ⟨by simp; omega,i2⟩
  ·split
   ·refine ⟨?_,?_⟩
    ·rw [List.length_cons,List.length_cons]
     have:(stripH L).length ≤ L.length:=List.length_filter_le _ _
     omega
    ·intro f hf
     rcases List.mem_cons.1 hf with rfl | hf
     ·have:=xnewVal_len bd g.2
      exact ⟨hg.1,by simp only; omega⟩
     ·have:=h f (by simp [(List.mem_filter.1 hf).1])
      omega
   ·refine ⟨by simp; omega,?_⟩
    intro f hf
    rcases List.mem_cons.1 hf with rfl | hf
    ·omega
    ·exact i2 f hf
end Go.Proofs.YtknhacbfddggpaaGreatDoor
