import Derived.Test.YtknhacbfddggpaaGreatDoorZ4
import Derived.Lib.ItoaNum
import Derived.Test.YtknhacbfddggpaaGreatDoorZ7
import Derived.Test.YtknhacbfddggpaaGreatDoorZ8
import Derived.Test.YtknhacbfddggpaaGreatDoorZ9
namespace Go.Proofs.YtknhacbfddggpaaGreatDoor
open Go.RowKit
def decVal (l:List UInt8):Nat:=l.foldl (fun a c=>a * 10+(c.toNat - 48)) 0
theorem decVal_snoc (l:List UInt8) (c:UInt8):decVal (l++[c]) = decVal l * 10+(c.toNat - 48):=by simp [decVal]
theorem dig_toNat (d:Nat) (h:d < 10):(UInt8.ofNat (48+d)).toNat = 48+d:=UInt8.toNat_ofNat_of_lt' (by show 48+d < 256; omega)
theorem decVal_digits (u:Nat):decVal (Lib.decDigits u) = u:=by
 induction u using Nat.strongRecOn with
 | _ u ih =>
  rw [Lib.decDigits]
  by_cases h:u < 10
  ·rw [dif_pos h]
   show 0 * 10+((UInt8.ofNat (48+u)).toNat - 48) = u
   rw [dig_toNat u h]; omega
  ·rw [dif_neg h,decVal_snoc,ih (u / 10) (by omega),dig_toNat _ (by omega)]
   omega
theorem digits_are (u:Nat):∀ c ∈ Lib.decDigits u,48 ≤ c.toNat∧c.toNat ≤ 57:=by
 induction u using Nat.strongRecOn with
 | _ u ih =>
  rw [Lib.decDigits]
  by_cases h:u < 10
  ·rw [dif_pos h]
   intro c hc
   rw [List.mem_singleton.1 hc,dig_toNat u h]
   omega
  ·rw [dif_neg h]
   intro c hc
   rcases List.mem_append.1 hc with hc | hc
   ·exact ih (u / 10) (by omega) c hc
   ·rw [List.mem_singleton.1 hc,dig_toNat _ (by omega)]
    omega
theorem nDigits_le:∀ (k u:Nat),u < 10 ^ (k+1) → Lib.nDigits u ≤ k+1
 | 0,u,h=>by rw [Lib.nDigits_small (by simpa using h)]; exact Nat.le_refl _
 | k+1,u,h=>by
  by_cases hu:u < 10
  ·rw [Lib.nDigits_small hu]; omega
  ·rw [Lib.nDigits_big hu]
   have:=nDigits_le k (u / 10) (by rw [Nat.pow_succ] at h; omega)
   omega
end Go.Proofs.YtknhacbfddggpaaGreatDoor
namespace Go.Proofs.YtknhacbfddggpaaGreatDoor
open Go.RowKit
def ciN:List UInt8:=[99,111,110,116,101,110,116,45,105,100]
def ciB:List UInt8:=[67,111,110,116,101,110,116,45,73,68]
def clN:List UInt8:=[99,111,110,116,101,110,116,45,108,111,99,97,116,105,111,110]
def relN:List UInt8:=[109,117,108,116,105,112,97,114,116,47,114,101,108,97,116,101,100]
def htmN:List UInt8:=[116,101,120,116,47,104,116,109,108]
def stN:List UInt8:=[115,116,97,114,116]
def cidN:List UInt8:=[99,105,100]
def partN:List UInt8:=[112,97,114,116]
def saidB (L:List PB) (n:List UInt8):List UInt8:=((getB L n).map (·.2)).getD []
def kindB (L:List PB):List UInt8 × List PB:=(readK (saidB L ctN)).getD ([],[])
def zeroA:AB:=⟨[],false,[],[],false,[],false,[]⟩
def placeB (base:AB) (L:List PB):AB:=wholeA (resA base ((readA (saidB L clN)).getD zeroA))
def angledB (x:List UInt8):List UInt8:=60 :: (x++[62])
def idOfB (s:List UInt8):List UInt8:=match s with
 | []=>[]
 | c :: r=>if c = 60∧r.getLast? = some 62 then r.dropLast else []
def eqA (a b:AB):Bool:=decide (a.sch = b.sch) && (a.hasA == b.hasA) && decide (a.auth = b.auth) && decide (a.path = b.path) && (a.hasQ == b.hasQ) && decide (a.query = b.query) && (a.hasF == b.hasF) && decide (a.frag = b.frag)
structure BP where
 head:List PB
 body:List UInt8
 id:List UInt8
 loc:AB
structure BB where
 head:List PB
 ps:List BP
 root:Nat
def startB (ps:List PB):List UInt8:=((ps.find? fun p=>decide (p.1 = stN)).map (·.2)).getD []
def rootB (ps:List BP) (s:List UInt8):Nat:=(ps.findIdx? fun p=>decide (angledB p.id = s)).getD 0
def pieceB (base:AB):PT → BP
 | .mk L b _ _=>⟨L,b,idOfB (saidB L ciN),placeB base L⟩
def manyB:PT → Bool
 | .mk _ _ m _=>m
def openB:PT → Option BB
 | .mk L _ _ ps=>if decide ((kindB L).1 = relN) && !ps.isEmpty && ps.all (fun p=>!manyB p) then
   some ⟨L,ps.map (pieceB (placeB zeroA L)),rootB (ps.map (pieceB (placeB zeroA L))) (startB (kindB L).2)⟩ else none
def namedB (ps:List BP) (a:AB):Option Nat:=if a.sch = cidN∧a.hasA = false∧a.hasQ = false∧a.path ≠ [] then ps.findIdx? (fun p=>decide (p.id = a.path)) else none
def findB (ps:List BP) (a:AB):Option Nat:=match namedB ps (wholeA a) with
 | some i=>some i
 | none=>if eqA (wholeA a) zeroA then none else ps.findIdx? (fun p=>eqA p.loc (wholeA a))
def leadB (ps:List BP) (loc:AB) (v:List UInt8):List UInt8 × Option Nat:=match readA v with
 | none=>(v,none)
 | some x=>(writeA (resA loc x),findB ps (resA loc x))
def runF:Nat → Md → List UInt8 → List PItem × List UInt8
 | 0,_,s=>([],s)
 | k+1,m,s=>match stepG m s with
  | none=>([],s)
  | some (c,e,m',r)=>((c,e) :: (runF k m' r).1,(runF k m' r).2)
def itsP (s:List UInt8):List PItem:=(runF (2 * s.length+1) none s).1
def tlP (s:List UInt8):List UInt8:=(runF (2 * s.length+1) none s).2
def saysP (s:List UInt8):List (List UInt8):=(linksP 0 (itsP s)).map fun q=>q.2.2
def linksB (p:BP):List (List UInt8):=if (kindB p.head).1 = htmN then saysP p.body else []
def leadsB (ps:List BP) (p:BP):List (List UInt8 × Option Nat):=(linksB p).map (leadB ps p.loc)
def markB (k:Nat):List UInt8:=64 :: 98 :: Lib.decDigits k
def newId (n k:Nat):List UInt8:=partN++(Lib.decDigits n++markB k)
def textsB (b:BB):List (List UInt8):=b.head.map (·.2)++b.ps.flatMap fun p=>p.head.map (·.2)++[p.body]
def cidA (n k:Nat) (hasF:Bool) (frag:List UInt8):AB:=⟨cidN,false,[],newId n k,false,[],hasF,frag⟩
def boundV (ps:List BP) (loc:AB) (k:Nat) (v:List UInt8):List UInt8:=match (leadB ps loc v).2 with
 | none=>v
 | some n=>writeA (cidA n k ((readA v).getD zeroA).hasF ((readA v).getD zeroA).frag)
def withId (L:List PB) (n k:Nat):List PB:=(L.filter fun f=>!decide (smallS f.1 = ciN))++[(ciB,angledB (newId n k))]
def boundP (ps:List BP) (p:BP) (k:Nat):List UInt8:=if linksB p = [] then p.body else outP (itsP p.body) (((linksB p).map (boundV ps p.loc k)).map escS) (tlP p.body)
def setV (v:List UInt8):List PB → List PB
 | []=>[]
 | f :: L=>if smallS f.1 = ctN then (f.1,v) :: L else f :: setV v L
def startedB (L:List PB) (id:List UInt8):List UInt8:=writeK (kindB L).1 (((kindB L).2.filter fun p=>!decide (p.1 = stN))++[(stN,angledB id)])
def withStart (L:List PB) (id:List UInt8):List PB:=setV (startedB L id) L
def bindP (ps:List BP) (k n:Nat) (p:BP):PT:=.mk (withId p.head n k) (boundP ps p k) false []
def bindB (b:BB) (k:Nat):PT:=.mk (withStart b.head (newId b.root k)) [] true (b.ps.mapIdx fun n p=>bindP b.ps k n p)
theorem eqA_iff (a b:AB):eqA a b = true ↔ a = b:=by
 obtain ⟨a1,a2,a3,a4,a5,a6,a7,a8⟩:=a
 obtain ⟨b1,b2,b3,b4,b5,b6,b7,b8⟩:=b
 unfold eqA
 simp only [Bool.and_eq_true,decide_eq_true_eq,beq_iff_eq,AB.mk.injEq]
 constructor
 ·rintro ⟨⟨⟨⟨⟨⟨⟨rfl,rfl⟩,rfl⟩,rfl⟩,rfl⟩,rfl⟩,rfl⟩,rfl⟩
  exact ⟨rfl,rfl,rfl,rfl,rfl,rfl,rfl,rfl⟩
 ·rintro ⟨rfl,rfl,rfl,rfl,rfl,rfl,rfl,rfl⟩
  exact ⟨⟨⟨⟨⟨⟨⟨rfl,rfl⟩,rfl⟩,rfl⟩,rfl⟩,rfl⟩,rfl⟩,rfl⟩
theorem runF_run:∀ (k:Nat) (m:Md) (s:List UInt8),2 * s.length+modeW m < k → Run m s (runF k m s).1 (runF k m s).2
 | 0,_,_,h=>absurd h (by omega)
 | k+1,m,s,h=>by
  unfold runF
  cases hs:stepG m s with
  | none=>exact Run.stop m s hs
  | some o =>
   obtain ⟨c,e,m',r⟩:=o
   have hlt:2 * r.length+modeW m' < k:=by
    have hle:=modeW_le m'
    match m with
    | none =>
     have hs:stepTop s = some (c,e,m',r):=hs
     obtain ⟨_,h1,h2,_⟩:=top_local s c r r e m' hs rfl
     have:=congrArg List.length h1
     have:=List.length_pos_iff.2 h2
     simp only [List.length_append] at *
     omega
    | some (true,n) =>
     have hs:stepSkip n s = some (c,e,m',r):=hs
     unfold stepSkip at hs
     obtain ⟨q,hq,hq2⟩:=Option.map_eq_some_iff.1 hs
     simp only [Prod.mk.injEq] at hq2
     obtain ⟨rfl,_,rfl,rfl⟩:=hq2
     have h1:=(findN_some _ _ q.1 q.2 hq).1
     have hw:modeW (some (true,n)) = 1:=rfl
     have hw':modeW none = 0:=rfl
     have:=congrArg List.length h1
     simp only [List.length_append] at *
     omega
    | some (false,n) =>
     have hs:stepTag n s = some (c,e,m',r):=hs
     match e with
     | none =>
      obtain ⟨h1,h2,_⟩:=tag_none n s c r r m' hs rfl
      have:=congrArg List.length h1
      have:=List.length_pos_iff.2 h2
      simp only [List.length_append] at *
      omega
     | some (v,b) =>
      obtain ⟨_,h2,⟨_,q,_,_,h1,_⟩ | ⟨_,h1,_⟩⟩:=tag_some n s c r v b m' hs
      all_goals
       have:=congrArg List.length h1
       have:=List.length_pos_iff.2 h2
       simp only [List.length_append,List.length_cons] at *
       omega
   exact Run.go m m' s c r _ e _ hs (runF_run k m' r hlt)
theorem itsP_run (s:List UInt8):Run none s (itsP s) (tlP s):=runF_run _ none s (by show 2 * s.length+0 < _; omega)
theorem itsP_det (s:List UInt8) (its:List PItem) (tl:List UInt8) (h:Run none s its tl):itsP s = its∧tlP s = tl:=run_det none s its tl h _ _ (itsP_run s)
theorem apart_in {sub x s:List UInt8} (h:Apart sub s) (hx:∃ u v,s = u++x++v):Apart sub x:=by
 obtain ⟨u,v,rfl⟩:=hx
 intro a b e
 exact h (u++a) (b++v) (by rw [e]; simp)
theorem apart_nil {sub:List UInt8} (h:sub ≠ []):Apart sub []:=by
 intro u v e
 have:=congrArg List.length e
 simp at this
 exact h (List.eq_nil_of_length_eq_zero (by omega))
def FreeP (m p:List UInt8):Prop:=∀ x ∈ splitP p,Apart m x
theorem split_infix:∀ (l x:List UInt8),x ∈ splitP l → ∃ u v,l = u++x++v
 | [],x,h=>by
  simp [splitP] at h
  exact ⟨[],[],by simp [h]⟩
 | c :: l,x,h=>by
  by_cases hc:c = 47
  ·subst hc
   rw [splitP_slash] at h
   rcases List.mem_cons.1 h with rfl | h
   ·exact ⟨[],47 :: l,rfl⟩
   ·obtain ⟨u,v,e⟩:=split_infix l x h
    exact ⟨47 :: u,v,by rw [e]; rfl⟩
  ·rw [splitP_char c l hc] at h
   have ih:=split_infix l
   cases hs:splitP l with
   | nil=>exact absurd hs (splitP_ne l)
   | cons y r =>
    rw [hs] at h ih
    rcases List.mem_cons.1 h with rfl | h
    ·-- the first piece is a beginning
     have hb:∃ v,l = y++v:=by
      have hj:=join_split l
      rw [hs] at hj
      cases r with
      | nil=>exact ⟨[],by rw [← hj]; simp [joinP]⟩
      | cons z r=>exact ⟨47 :: joinP (z :: r),by rw [← hj,joinP_cons y (z :: r) (by simp)]⟩
     obtain ⟨v,hv⟩:=hb
     exact ⟨[],v,by rw [hv]; rfl⟩
    ·obtain ⟨u,v,e⟩:=ih x (List.mem_cons_of_mem _ h)
     exact ⟨c :: u,v,by rw [e]; rfl⟩
theorem free_of {m p s:List UInt8} (h:Apart m s) (hp:∃ u v,s = u++p++v):FreeP m p:=fun x hx=>apart_in (apart_in h hp) (split_infix p x hx)
theorem free_nil {m:List UInt8} (h:m ≠ []):FreeP m []:=by
 intro x hx
 simp [splitP] at hx
 rw [hx]
 exact apart_nil h
theorem free_dots {m p:List UInt8} (hm:m ≠ []) (h:FreeP m p):FreeP m (dotsS p):=by
 intro x hx
 rw [dotsS_split] at hx
 rcases dots_mem _ _ _ x hx with rfl | h1 | h1
 ·exact apart_nil hm
 ·cases h1
 ·exact h x h1
theorem split_app (x t:List UInt8):splitP (x++47 :: t) = splitP x++splitP t:=by
 induction x with
 | nil=>rw [List.nil_append,splitP_slash]; rfl
 | cons c x ih =>
  by_cases hc:c = 47
  ·subst hc
   show splitP (47 :: (x++47 :: t)) = _
   rw [splitP_slash,splitP_slash,ih]
   rfl
  ·show splitP (c :: (x++47 :: t)) = _
   rw [splitP_char c _ hc,splitP_char c x hc,ih]
   cases hs:splitP x with
   | nil=>exact absurd hs (splitP_ne x)
   | cons y r=>rfl
theorem dirS_forms (p:List UInt8):dirS p = [] ∨ ∃ x y,p = x++47 :: y∧dirS p = x++[47]:=by
 unfold dirS
 have e:=List.takeWhile_append_dropWhile (p:=fun c:UInt8=>c != 47) (l:=p.reverse)
 cases hd:p.reverse.dropWhile (fun c:UInt8=>c != 47) with
 | nil=>exact .inl rfl
 | cons c r =>
  right
  have hc:c = 47:=by
   have:=dropWhile_head (p:=fun c:UInt8=>c != 47) p.reverse
   rw [hd] at this
   simpa using this
  subst hc
  rw [hd] at e
  refine ⟨r.reverse,(p.reverse.takeWhile (fun c:UInt8=>c != 47)).reverse,?_,by simp⟩
  have:=congrArg List.reverse e
  rw [List.reverse_reverse,List.reverse_append,List.reverse_cons,List.append_assoc] at this
  exact this.symm
theorem free_join {m q:List UInt8} (b:AB) (hm:m ≠ []) (h:FreeP m b.path) (hq:FreeP m q):FreeP m (dirA b++q):=by
 unfold dirA
 split
 ·intro x hx
  have e:splitP ([47]++q) = [] :: splitP q:=splitP_slash q
  rw [e] at hx
  rcases List.mem_cons.1 hx with rfl | hx
  ·exact apart_nil hm
  ·exact hq x hx
 ·rcases dirS_forms b.path with e | ⟨y,z,e1,e2⟩
  ·rw [e]; exact hq
  ·rw [e2]
   intro x hx
   rw [List.append_assoc,List.singleton_append,split_app] at hx
   rcases List.mem_append.1 hx with hx | hx
   ·exact h x (by rw [e1,split_app]; exact List.mem_append_left _ hx)
   ·exact hq x hx
theorem free_res {m:List UInt8} (b a:AB) (hm:m ≠ []) (hb:FreeP m b.path) (ha:FreeP m a.path):FreeP m (resA b a).path:=by
 unfold resA
 split
 ·exact free_dots hm ha
 ·split
  ·split <;> exact hb
  ·refine free_dots hm ?_
   split
   ·exact ha
   ·exact free_join b hm hb ha
theorem read_path (s:List UInt8) (a:AB) (h:readA s = some a):∃ u v,s = u++a.path++v:=by
 have:=(read_write s a h).1
 unfold writeA at this
 exact ⟨(if a.sch = [] then [] else a.sch++[58])++(if a.hasA then 47 :: 47 :: a.auth else []),(if a.hasQ then 63 :: a.query else [])++(if a.hasF then 35 :: a.frag else []),by rw [← this]; simp⟩
theorem free_read {m s:List UInt8} (hm:m ≠ []) (h:Apart m s):FreeP m ((readA s).getD zeroA).path:=by
 cases hr:readA s with
 | none=>exact free_nil hm
 | some a=>exact free_of h (read_path s a hr)
theorem markB_ne (k:Nat):markB k ≠ []:=by unfold markB; simp
theorem free_place {k:Nat} (base:AB) (L:List PB) (hb:FreeP (markB k) base.path) (h:∀ f ∈ L,Apart (markB k) f.2):FreeP (markB k) (placeB base L).path:=by
 show FreeP (markB k) (resA base _).path
 refine free_res _ _ (markB_ne k) hb (free_read (markB_ne k) ?_)
 unfold saidB
 cases hg:getB L clN with
 | none=>exact apart_nil (markB_ne k)
 | some f=>exact h f (List.mem_of_find?_eq_some hg)
theorem newId_not {n k:Nat} (h:FreeP (markB k) (newId n k)):False:=by
 have hs:(47:UInt8) ∉ newId n k:=by
  intro hm
  unfold newId markB at hm
  simp only [List.mem_append,List.mem_cons] at hm
  rcases hm with hm | hm | hm | hm | hm
  ·exact absurd hm (by decide)
  ·have:=digits_are n _ hm; simp at this
  ·exact absurd hm (by decide)
  ·exact absurd hm (by decide)
  ·have:=digits_are k _ hm; simp at this
 have:=h (newId n k) (by rw [split_noslash _ hs]; simp)
 exact this (partN++Lib.decDigits n) [] (by unfold newId; simp)
def plainQ (c:UInt8):Prop:=c ≠ 38∧c ≠ 34∧c ≠ 39∧c ≠ 60∧c ≠ 62
theorem signs_out {w:List UInt8 × UInt8} (h:w ∈ signs):¬ plainQ w.2:=by
 unfold signs at h
 simp only [List.mem_cons,List.not_mem_nil,or_false] at h
 unfold plainQ
 rcases h with rfl | rfl | rfl | rfl | rfl <;> simp
theorem unesc_prefix:∀ (m:List UInt8) (n:Nat) (s t:List UInt8),(∀ c ∈ m,plainQ c) → unescF n s = m++t → ∃ r,s = m++r
 | [],_,s,_,_,_=>⟨s,rfl⟩
 | c :: m,0,s,t,_,h=>by cases h
 | c :: m,n+1,s,t,hm,h=>by
  cases s with
  | nil=>cases h
  | cons d r =>
   unfold unescF at h
   cases hf:signs.find? fun w=>w.1.isPrefixOf (smallS (d :: r)) with
   | some w =>
    simp only [hf,List.cons_append,List.cons.injEq] at h
    exact absurd (hm c (by simp)) (by rw [← h.1]; exact signs_out (List.mem_of_find?_eq_some hf))
   | none =>
    simp only [hf,List.cons_append,List.cons.injEq] at h
    obtain ⟨r',hr⟩:=unesc_prefix m n r t (fun x hx=>hm x (by simp [hx])) h.2
    exact ⟨r',by rw [h.1,hr]; rfl⟩
theorem unesc_in:∀ (n:Nat) (s m u t:List UInt8),m ≠ [] → (∀ c ∈ m,plainQ c) → unescF n s = u++m++t → ∃ u' t',s = u'++m++t'
 | 0,s,m,u,t,h0,_,h=>by
  have:=congrArg List.length h
  simp [unescF] at this
  exact absurd (List.eq_nil_of_length_eq_zero (by omega)) h0
 | n+1,s,m,u,t,h0,hm,h=>by
  cases u with
  | nil =>
   rw [List.nil_append] at h
   obtain ⟨r,hr⟩:=unesc_prefix m (n+1) s t hm h
   exact ⟨[],r,by rw [hr]; rfl⟩
  | cons e u =>
   cases s with
   | nil=>cases h
   | cons d r =>
    unfold unescF at h
    cases hf:signs.find? fun w=>w.1.isPrefixOf (smallS (d :: r)) with
    | some w =>
     simp only [hf,List.cons_append,List.cons.injEq] at h
     obtain ⟨u',t',h1⟩:=unesc_in n ((d :: r).drop w.1.length) m u t h0 hm h.2
     have:=List.take_append_drop w.1.length (d :: r)
     exact ⟨(d :: r).take w.1.length++u',t',by rw [List.append_assoc,List.append_assoc,← List.append_assoc u',← h1,this]⟩
    | none =>
     simp only [hf,List.cons_append,List.cons.injEq] at h
     obtain ⟨u',t',h1⟩:=unesc_in n r m u t h0 hm h.2
     exact ⟨d :: u',t',by rw [h1]; rfl⟩
theorem mark_plain (k:Nat):∀ c ∈ markB k,plainQ c:=by
 intro c hc
 unfold markB at hc
 simp only [List.mem_cons] at hc
 unfold plainQ
 rcases hc with rfl | rfl | hc
 ·decide
 ·decide
 ·have:=digits_are k c hc
  refine ⟨?_,?_,?_,?_,?_⟩ <;> (rintro rfl; simp at this)
theorem apart_unesc {k:Nat} {s:List UInt8} (h:Apart (markB k) s):Apart (markB k) (unescS s):=by
 intro u v e
 obtain ⟨u',t',h1⟩:=unesc_in _ s (markB k) u v (markB_ne k) (mark_plain k) e
 exact h u' t' h1
theorem links_in:∀ (its:List PItem) (k:Nat) (tl:List UInt8),∀ q ∈ linksP k its,∃ v u t,q.2.2 = unescS v∧srcP its tl = u++v++t
 | [],_,_=>by intro q hq; cases hq
 | (c,none) :: its,k,tl=>by
  intro q hq
  rw [linksP] at hq
  obtain ⟨v,u,t,h1,h2⟩:=links_in its _ tl q hq
  exact ⟨v,c++u,t,h1,by rw [srcP,h2]; simp⟩
 | (c,some (v,true)) :: its,k,tl=>by
  intro q hq
  rw [linksP] at hq
  rcases List.mem_cons.1 hq with rfl | hq
  ·exact ⟨v,c,c.getLast?.getD 0 :: srcP its tl,rfl,by rw [srcP]; simp⟩
  ·obtain ⟨v',u,t,h1,h2⟩:=links_in its _ tl q hq
   exact ⟨v',c++(v++c.getLast?.getD 0 :: u),t,h1,by rw [srcP,h2]; simp⟩
 | (c,some (v,false)) :: its,k,tl=>by
  intro q hq
  rw [linksP] at hq
  rcases List.mem_cons.1 hq with rfl | hq
  ·exact ⟨v,c,srcP its tl,rfl,by rw [srcP]; simp⟩
  ·obtain ⟨v',u,t,h1,h2⟩:=links_in its _ tl q hq
   exact ⟨v',c++(v++u),t,h1,by rw [srcP,h2]; simp⟩
theorem apart_says {k:Nat} {s:List UInt8} (h:Apart (markB k) s):∀ v ∈ saysP s,Apart (markB k) v:=by
 intro v hv
 unfold saysP at hv
 obtain ⟨q,hq,rfl⟩:=List.mem_map.1 hv
 obtain ⟨x,u,t,h1,h2⟩:=links_in (itsP s) 0 (tlP s) q hq
 rw [h1]
 have hs:=(page_turned s (itsP s) (tlP s) (itsP_run s) []).1
 exact apart_unesc (apart_in h ⟨u,t,by rw [← h2]; exact hs⟩)
end Go.Proofs.YtknhacbfddggpaaGreatDoor
namespace Go.Proofs.YtknhacbfddggpaaGreatDoor
open Go.RowKit
theorem getB_nil (n:List UInt8):getB [] n = none:=rfl
theorem getB_filter (L:List PB) (m n:List UInt8) (h:n ≠ m):getB (L.filter fun f=>!decide (smallS f.1 = m)) n = getB L n:=by
 induction L with
 | nil=>rfl
 | cons f L ih =>
  rw [List.filter_cons,getB_cons]
  by_cases hm:smallS f.1 = m
  ·have e:(!decide (smallS f.1 = m)) = false:=by simp [hm]
   rw [e]
   simp only [Bool.false_eq_true,if_false]
   rw [ih,if_neg (by rw [hm]; exact fun e=>h e.symm)]
  ·have e:(!decide (smallS f.1 = m)) = true:=by simp [hm]
   rw [e]
   simp only [if_true]
   rw [getB_cons,ih]
theorem getB_filter_self (L:List PB) (m:List UInt8):getB (L.filter fun f=>!decide (smallS f.1 = m)) m = none:=by
 unfold getB
 rw [List.find?_eq_none]
 intro f hf
 have:=(List.mem_filter.1 hf).2
 simpa using this
theorem getB_behind (L:List PB) (f:PB) (n:List UInt8) (h0:getB L n = none) (h:smallS f.1 = n):getB (L++[f]) n = some f:=by
 unfold getB at h0 ⊢
 rw [List.find?_append,h0]
 simp [h]
theorem small_ci:smallS ciB = ciN:=by decide +kernel
theorem small_cte:smallS cteB = cteN:=by decide +kernel
theorem getB_withId (L:List PB) (i k:Nat) (n:List UInt8):getB (withId L i k) n = if n = ciN then some (ciB,angledB (newId i k)) else getB L n:=by
 unfold withId
 by_cases h:n = ciN
 ·subst h
  rw [if_pos rfl]
  exact getB_behind _ _ _ (getB_filter_self L ciN) small_ci
 ·rw [if_neg h,getB_append _ _ _ (by rw [small_ci]; exact fun e=>h e.symm),getB_filter L ciN n h]
theorem getB_plainO (L:List PB) (how n:List UInt8) (h:n ≠ cteN):getB (stripH L++[(cteB,how)]) n = getB L n:=by
 rw [getB_append _ _ _ (by rw [small_cte]; exact fun e=>h e.symm)]
 exact getB_filter L cteN n h
theorem getB_setO (bd:List UInt8) (L:List PB) (n:List UInt8) (h1:n ≠ ctN) (h2:n ≠ cteN):getB (setCT bd L) n = getB L n:=by
 induction L with
 | nil=>rfl
 | cons f L ih =>
  rw [setCT_cons,getB_cons]
  by_cases hm:smallS f.1 = cteN
  ·rw [if_pos hm,ih,if_neg (by rw [hm]; exact fun e=>h2 e.symm)]
  ·rw [if_neg hm]
   by_cases hc:smallS f.1 = ctN
   ·rw [if_pos hc,getB_cons,if_neg (by rw [hc]; exact fun e=>h1 e.symm),if_neg (by rw [hc]; exact fun e=>h1 e.symm)]
    exact getB_filter L cteN n h2
   ·rw [if_neg hc,getB_cons,ih]
theorem getB_setV (v:List UInt8) (L:List PB) (n:List UInt8):getB (setV v L) n = if n = ctN then (getB L ctN).map (fun f=>(f.1,v)) else getB L n:=by
 induction L with
 | nil=>rw [setV,getB_nil,getB_nil]; split <;> rfl
 | cons f L ih =>
  rw [setV]
  by_cases hc:smallS f.1 = ctN
  ·rw [if_pos hc,getB_cons,getB_cons,getB_cons]
   by_cases hn:n = ctN
   ·subst hn
    rw [if_pos hc,if_pos rfl,if_pos hc]
    rfl
   ·rw [if_neg hn,if_neg (by rw [hc]; exact fun e=>hn e.symm),if_neg (by rw [hc]; exact fun e=>hn e.symm)]
  ·rw [if_neg hc,getB_cons,ih,getB_cons,getB_cons]
   by_cases hn:n = ctN
   ·subst hn
    rw [if_pos rfl,if_pos rfl,if_neg hc,if_neg hc]
   ·rw [if_neg hn,if_neg hn]
theorem readK_nil:readK [] = none:=by decide +kernel
theorem kind_said (L:List PB) (m:List UInt8) (hm:m ≠ []) (h:(kindB L).1 = m):∃ f ps,getB L ctN = some f∧readK f.2 = some (m,ps)∧kindB L = (m,ps):=by
 unfold kindB saidB at *
 cases hg:getB L ctN with
 | none =>
  rw [hg] at h
  simp only [Option.map_none,Option.getD_none,readK_nil] at h
  exact absurd h.symm hm
 | some f =>
  rw [hg] at h
  simp only [Option.map_some,Option.getD_some] at h ⊢
  cases hr:readK f.2 with
  | none=>rw [hr] at h; exact absurd h.symm hm
  | some q =>
   rw [hr] at h
   simp only [Option.getD_some] at h ⊢
   exact ⟨f,q.2,rfl,by rw [← h,hr],by rw [← h]⟩
theorem digit_in (c:UInt8) (h1:48 ≤ c.toNat) (h2:c.toNat ≤ 57):inC c = true:=by
 unfold inC
 simp only [Bool.and_eq_true,decide_eq_true_eq]
 omega
theorem newId_in (n k:Nat):(angledB (newId n k)).all inC = true:=by
 rw [List.all_eq_true]
 intro c hc
 unfold angledB newId markB at hc
 simp only [List.mem_cons,List.mem_append,List.not_mem_nil,or_false] at hc
 rcases hc with rfl | (hc | hc | rfl | rfl | hc) | rfl
 ·decide
 ·have key:∀ c ∈ partN,inC c = true:=by decide
  exact key c hc
 ·have:=digits_are n c hc; exact digit_in c this.1 this.2
 ·decide
 ·decide
 ·have:=digits_are k c hc; exact digit_in c this.1 this.2
 ·decide
theorem start_good (n k:Nat):goodP (stN,angledB (newId n k)) = true:=by
 have h1:tokS stN = true:=by decide
 have h2:decide (smallS stN = stN) = true:=by decide +kernel
 unfold goodP
 rw [newId_in]
 show (tokS stN && decide (smallS stN = stN) && true) = true
 rw [h1,h2]
 rfl
theorem started_good (ps:List PB) (h:ps.all goodP = true) (n k:Nat):((ps.filter fun p=>!decide (p.1 = stN))++[(stN,angledB (newId n k))]).all goodP = true:=by
 rw [List.all_append,List.all_cons,start_good]
 simp only [List.all_nil,Bool.and_true]
 rw [List.all_eq_true] at h ⊢
 exact fun p hp=>h p (List.mem_filter.1 hp).1
theorem rel_ne:relN ≠ []:=by decide
theorem started_read (L:List PB) (h:(kindB L).1 = relN) (n k:Nat):∃ f ps,getB L ctN = some f∧kindB L = (relN,ps)∧goodK relN ((ps.filter fun p=>!decide (p.1 = stN))++[(stN,angledB (newId n k))]) = true∧readK (startedB L (newId n k)) = some (relN,(ps.filter fun p=>!decide (p.1 = stN))++[(stN,angledB (newId n k))]):=by
 obtain ⟨f,ps,h1,h2,h3⟩:=kind_said L relN rel_ne h
 have hg:=kind_good f.2 relN ps h2
 unfold goodK at hg
 rw [Bool.and_eq_true] at hg
 have hg2:goodK relN ((ps.filter fun p=>!decide (p.1 = stN))++[(stN,angledB (newId n k))]) = true:=by
  unfold goodK
  rw [hg.1,started_good ps hg.2 n k]
  rfl
 refine ⟨f,ps,h1,h3,hg2,?_⟩
 unfold startedB
 rw [h3]
 exact kind_back relN _ hg2
theorem start_set (bd:List UInt8) (ps:List PB):startB (setP bd ps) = startB ps:=by
 unfold startB
 congr 1
 induction ps with
 | nil=>rfl
 | cons p ps ih =>
  unfold setP
  by_cases hb:p.1 = bdN
  ·rw [if_pos hb]
   have:p.1 ≠ stN:=by rw [hb]; decide
   rw [List.find?_cons_of_neg (by simpa using this),List.find?_cons_of_neg (by simpa using this)]
  ·rw [if_neg hb]
   by_cases hs:p.1 = stN
   ·rw [List.find?_cons_of_pos (by simpa using hs),List.find?_cons_of_pos (by simpa using hs)]
   ·rw [List.find?_cons_of_neg (by simpa using hs),List.find?_cons_of_neg (by simpa using hs)]
    exact ih
theorem start_last (ps:List PB) (v:List UInt8):startB ((ps.filter fun p=>!decide (p.1 = stN))++[(stN,v)]) = v:=by
 unfold startB
 rw [List.find?_append]
 have:(ps.filter fun p=>!decide (p.1 = stN)).find? (fun p=>decide (p.1 = stN)) = none:=by
  rw [List.find?_eq_none]
  intro p hp
  have:=(List.mem_filter.1 hp).2
  simpa using this
 rw [this]
 simp
theorem kind_bound (L:List PB) (h:(kindB L).1 = relN) (n k:Nat) (bd:List UInt8) (hb:okBd bd):(kindB (setCT bd (withStart L (newId n k)))).1 = relN∧startB (kindB (setCT bd (withStart L (newId n k)))).2 = angledB (newId n k):=by
 obtain ⟨f,ps,h1,h2,h3,h4⟩:=started_read L h n k
 have e1:getB (withStart L (newId n k)) ctN = some (f.1,startedB L (newId n k)):=by
  unfold withStart
  rw [getB_setV,if_pos rfl,h1,Option.map_some]
 have e2:saidB (setCT bd (withStart L (newId n k))) ctN = newVal bd (startedB L (newId n k)):=by
  unfold saidB
  rw [getB_set,e1,Option.map_some,Option.map_some,Option.getD_some]
 have e3:=newVal_read bd _ relN _ hb h4
 have e4:kindB (setCT bd (withStart L (newId n k))) = (relN,setP bd ((ps.filter fun p=>!decide (p.1 = stN))++[(stN,angledB (newId n k))])):=by
  unfold kindB
  rw [e2,e3,Option.getD_some]
 rw [e4]
 exact ⟨rfl,(start_set bd _).trans (start_last ps _)⟩
theorem id_angled (x:List UInt8):idOfB (angledB x) = x:=by
 unfold idOfB angledB
 simp
theorem newId_inj {n m k:Nat} (h:newId n k = newId m k):n = m:=by
 unfold newId at h
 have h1:Lib.decDigits n++markB k = Lib.decDigits m++markB k:=List.append_cancel_left h
 have h2:=List.append_cancel_right h1
 rw [← decVal_digits n,← decVal_digits m,h2]
theorem newId_ne (n k:Nat):newId n k ≠ []:=by unfold newId partN; simp
theorem angled_inj {x y:List UInt8} (h:angledB x = angledB y):x = y:=by rw [← id_angled x,← id_angled y,h]
theorem findIdx_at {α:Type} (f:α → Bool) (l:List α) (n:Nat) (hn:n < l.length) (h1:f l[n] = true) (h2:∀ j (hj:j < n),f (l[j]'(by omega)) = false):l.findIdx? f = some n:=by
 rw [List.findIdx?_eq_some_iff_getElem]
 exact ⟨hn,h1,fun j hj=>by rw [h2 j hj]; simp⟩
theorem named_at (cs:List BP) (k n:Nat) (hid:∀ i (h:i < cs.length),cs[i].id = newId i k) (hn:n < cs.length):cs.findIdx? (fun p=>decide (p.id = newId n k)) = some n:=by
 refine findIdx_at _ cs n hn (by rw [hid n hn]; simp) (fun j hj=>?_)
 rw [hid j (by omega)]
 simp only [decide_eq_false_iff_not]
 intro e
 have:=newId_inj e
 omega
theorem root_at (cs:List BP) (k n:Nat) (hid:∀ i (h:i < cs.length),cs[i].id = newId i k) (hn:n < cs.length):rootB cs (angledB (newId n k)) = n:=by
 unfold rootB
 rw [findIdx_at _ cs n hn]
 ·rfl
 ·rw [hid n hn]
  simp
 ·intro j hj
  rw [hid j (by omega)]
  simp only [decide_eq_false_iff_not]
  intro e
  have:=newId_inj (angled_inj e)
  omega
theorem rootB_lt (ps:List BP) (s:List UInt8) (h:ps ≠ []):rootB ps s < ps.length:=by
 unfold rootB
 have h0:=List.length_pos_iff.2 h
 cases hf:ps.findIdx? fun p=>decide (angledB p.id = s) with
 | none=>exact h0
 | some i =>
  have:=(List.findIdx?_eq_some_iff_getElem.1 hf).1
  exact this
def likeL (l m:List UInt8 × Option Nat):Prop:=l.2 = m.2∧(l.2 = none → l.1 = m.1)∧(l.2 ≠ none → ∃ t,m.1 = cidN++58 :: (partN++t))
theorem dots_newId (n k:Nat):dotsS (newId n k) = newId n k:=by
 have hs:(47:UInt8) ∉ newId n k:=by
  intro hm
  unfold newId markB at hm
  simp only [List.mem_append,List.mem_cons] at hm
  rcases hm with hm | hm | hm | hm | hm
  ·exact absurd hm (by decide)
  ·have:=digits_are n _ hm; simp at this
  ·exact absurd hm (by decide)
  ·exact absurd hm (by decide)
  ·have:=digits_are k _ hm; simp at this
 have hc:Clean1 (newId n k):=⟨by unfold newId partN dot; simp,by unfold newId partN dotdot; simp,hs⟩
 unfold dotsS
 rw [split_noslash _ hs,whole_id ⟨by simp,by intro x hx; rw [List.mem_singleton.1 hx]; exact hc,by intro x hx; cases hx⟩]
 rfl
theorem newId_33 (n k:Nat):∀ c ∈ newId n k,in33 c = true∧c ≠ 63∧c ≠ 35:=by
 intro c hc
 unfold newId markB at hc
 simp only [List.mem_append,List.mem_cons] at hc
 have dig:∀ (u:Nat) (c:UInt8),c ∈ Lib.decDigits u → in33 c = true∧c ≠ 63∧c ≠ 35:=by
  intro u c hc
  have:=digits_are u c hc
  refine ⟨?_,?_,?_⟩
  ·unfold in33
   simp only [Bool.and_eq_true,decide_eq_true_eq]
   omega
  ·rintro rfl; simp at this
  ·rintro rfl; simp at this
 rcases hc with hc | hc | rfl | rfl | hc
 ·have key:∀ c ∈ partN,in33 c = true∧c ≠ 63∧c ≠ 35:=by decide
  exact key c hc
 ·exact dig n c hc
 ·decide
 ·decide
 ·exact dig k c hc
theorem cid_sch:schS cidN = true:=by decide
theorem cid_fit (n k:Nat) (x:AB) (h:Fit0 x):Fit0 (cidA n k x.hasF x.frag):=by
 have hn:=newId_33 n k
 have h0:∀ c:UInt8,c ∈ ([]:List UInt8) → False:=fun c hc=>by cases hc
 refine ⟨?_,.inr cid_sch,fun c hc=>(h0 c hc).elim,fun c hc=>(hn c hc).2,fun c hc=>(h0 c hc).elim,fun _=>rfl,fun _=>rfl,h.frag0,fun e=>absurd (show false = true from e) (by decide),fun _ q e=>?_⟩
 ·intro c hc
  rcases hc with hc | hc | hc | hc | hc
  ·have key:∀ c ∈ cidN,in33 c = true:=by decide
   exact key c hc
  ·exact (h0 c hc).elim
  ·exact (hn c hc).1
  ·exact (h0 c hc).elim
  ·exact h.bytes c (.inr (.inr (.inr (.inr hc))))
 ·have e:newId n k = 47 :: 47 :: q:=e
  unfold newId partN at e
  simp at e
theorem findIdx_map {α:Type} (f:AB → Bool) (g:α → AB) (l:List α):l.findIdx? (fun p=>f (g p)) = (l.map g).findIdx? f:=by
 rw [List.findIdx?_map]
 rfl
theorem find_none (bs cs:List BP) (k:Nat) (hid:∀ i (h:i < cs.length),cs[i].id = newId i k) (hloc:cs.map BP.loc = bs.map BP.loc) (y:AB) (hy:FreeP (markB k) y.path) (h:findB bs y = none):findB cs y = none:=by
 have hn:namedB cs (wholeA y) = none:=by
  unfold namedB
  split
  ·rw [List.findIdx?_eq_none_iff]
   intro p hp
   obtain ⟨i,hi,rfl⟩:=List.mem_iff_getElem.1 hp
   rw [hid i hi]
   simp only [decide_eq_false_iff_not]
   intro e
   have e':newId i k = y.path:=e
   rw [← e'] at hy
   exact newId_not hy
  ·rfl
 unfold findB at h ⊢
 rw [hn]
 cases hb:namedB bs (wholeA y) with
 | some i=>rw [hb] at h; cases h
 | none =>
  rw [hb] at h
  simp only at h ⊢
  split at h
  ·rename_i hz
   rw [if_pos hz]
  ·rename_i hz
   rw [if_neg hz]
   rw [findIdx_map (fun a=>eqA a (wholeA y)) BP.loc] at h ⊢
   rw [hloc]
   exact h
theorem findB_lt (bs:List BP) (y:AB) (n:Nat) (h:findB bs y = some n):n < bs.length:=by
 unfold findB at h
 cases hb:namedB bs (wholeA y) with
 | some i =>
  rw [hb] at h
  obtain rfl:=Option.some.inj h
  unfold namedB at hb
  split at hb
  ·exact (List.findIdx?_eq_some_iff_getElem.1 hb).1
  ·cases hb
 | none =>
  rw [hb] at h
  simp only at h
  split at h
  ·cases h
  ·exact (List.findIdx?_eq_some_iff_getElem.1 h).1
theorem lead_back (bs cs:List BP) (k:Nat) (hid:∀ i (h:i < cs.length),cs[i].id = newId i k) (hloc:cs.map BP.loc = bs.map BP.loc) (loc:AB) (hl:FreeP (markB k) loc.path) (v:List UInt8) (hv:Apart (markB k) v):likeL (leadB bs loc v) (leadB cs loc (boundV bs loc k v)):=by
 have hlen:cs.length = bs.length:=by have:=congrArg List.length hloc; simpa using this
 cases hr:readA v with
 | none =>
  have e1:leadB bs loc v = (v,none):=by unfold leadB; rw [hr]
  have e2:boundV bs loc k v = v:=by unfold boundV; rw [e1]
  have e3:leadB cs loc v = (v,none):=by unfold leadB; rw [hr]
  rw [e2,e1,e3]
  exact ⟨rfl,fun _=>rfl,fun h=>absurd rfl h⟩
 | some x =>
  have e1:leadB bs loc v = (writeA (resA loc x),findB bs (resA loc x)):=by unfold leadB; rw [hr]
  cases hf:findB bs (resA loc x) with
  | none =>
   have e2:boundV bs loc k v = v:=by unfold boundV; rw [e1,hf]
   have hx:=free_read (markB_ne k) hv
   rw [hr] at hx
   have e3:leadB cs loc v = (writeA (resA loc x),none):=by
    unfold leadB
    rw [hr]
    simp only
    rw [find_none bs cs k hid hloc _ (free_res loc x (markB_ne k) hl hx) hf]
   rw [e2,e1,e3,hf]
   exact ⟨rfl,fun _=>rfl,fun h=>absurd rfl h⟩
  | some n =>
   have hn:=findB_lt bs _ n hf
   have hx:=(read_write v x hr).2
   have hcf:=cid_fit n k x hx
   have e2:boundV bs loc k v = writeA (cidA n k x.hasF x.frag):=by unfold boundV; rw [e1,hf,hr]; rfl
   have e4:readA (writeA (cidA n k x.hasF x.frag)) = some (cidA n k x.hasF x.frag):=write_read _ hcf cid_sch
   have e5:resA loc (cidA n k x.hasF x.frag) = cidA n k x.hasF x.frag:=by
    unfold resA
    rw [if_pos (.inl (by show cidN ≠ []; decide))]
    unfold cidA
    simp only
    rw [dots_newId,if_neg (by decide)]
   have e6:findB cs (cidA n k x.hasF x.frag) = some n:=by
    unfold findB namedB
    have c1:(wholeA (cidA n k x.hasF x.frag)).sch = cidN:=by show smallS cidN = cidN; decide +kernel
    have c2:(wholeA (cidA n k x.hasF x.frag)).path = newId n k:=rfl
    rw [if_pos ⟨c1,rfl,rfl,by rw [c2]; exact newId_ne n k⟩,c2,named_at cs k n hid (by omega)]
   have e7:leadB cs loc (writeA (cidA n k x.hasF x.frag)) = (writeA (cidA n k x.hasF x.frag),some n):=by
    unfold leadB
    rw [e4]
    simp only
    rw [e5,e6]
   rw [e2,e1,e7,hf]
   refine ⟨rfl,fun h=>absurd (show some n = none from h) (by simp),fun _=>?_⟩
   refine ⟨Lib.decDigits n++markB k++(if x.hasF then 35 :: x.frag else []),?_⟩
   unfold writeA cidA newId
   simp [cidN]
end Go.Proofs.YtknhacbfddggpaaGreatDoor
namespace Go.Proofs.YtknhacbfddggpaaGreatDoor
open Go.RowKit
theorem said_withId (L:List PB) (i k:Nat) (how n:List UInt8) (h1:n ≠ ciN) (h2:n ≠ cteN):saidB (stripH (withId L i k)++[(cteB,how)]) n = saidB L n:=by
 unfold saidB
 rw [getB_plainO _ _ _ h2,getB_withId,if_neg h1]
theorem said_id (L:List PB) (i k:Nat) (how:List UInt8):saidB (stripH (withId L i k)++[(cteB,how)]) ciN = angledB (newId i k):=by
 unfold saidB
 rw [getB_plainO _ _ _ (by decide),getB_withId,if_pos rfl,Option.map_some,Option.getD_some]
theorem place_withId (base:AB) (L:List PB) (i k:Nat) (how:List UInt8):placeB base (stripH (withId L i k)++[(cteB,how)]) = placeB base L:=by
 unfold placeB
 rw [said_withId L i k how clN (by decide) (by decide)]
theorem kind_withId (L:List PB) (i k:Nat) (how:List UInt8):kindB (stripH (withId L i k)++[(cteB,how)]) = kindB L:=by
 unfold kindB
 rw [said_withId L i k how ctN (by decide) (by decide)]
theorem place_whole (base:AB) (L:List PB) (id bd:List UInt8):placeB base (setCT bd (withStart L id)) = placeB base L:=by
 unfold placeB saidB withStart
 rw [getB_setO _ _ _ (by decide) (by decide),getB_setV,if_neg (by decide)]
theorem piece_bound (base:AB) (L:List PB) (i k:Nat) (how body:List UInt8):pieceB base (.mk (stripH (withId L i k)++[(cteB,how)]) body false []) = ⟨stripH (withId L i k)++[(cteB,how)],body,newId i k,placeB base L⟩:=by
 rw [pieceB,said_id,id_angled,place_withId]
def backB (b:BB) (k:Nat) (bd:List UInt8) (hows:Nat → List UInt8):PT:=
 .mk (setCT bd (withStart b.head (newId b.root k))) [] true (b.ps.mapIdx fun n p=>.mk (stripH (withId p.head n k)++[(cteB,hows n)]) (boundP b.ps p k) false [])
structure Opened (b:BB):Prop where
 rel:(kindB b.head).1 = relN
 some:b.ps ≠ []
 root:b.root < b.ps.length
 loc:∀ p ∈ b.ps,p.loc = placeB (placeB zeroA b.head) p.head
theorem opened_of (p:PT) (b:BB) (h:openB p = some b):Opened b:=by
 obtain ⟨L,x,m,ps⟩:=p
 rw [openB] at h
 split at h
 ·rename_i hc
  simp only [Bool.and_eq_true,decide_eq_true_eq,Bool.not_eq_true',List.isEmpty_eq_false_iff] at hc
  obtain rfl:=Option.some.inj h
  have hne:ps.map (pieceB (placeB zeroA L)) ≠ []:=by simpa using hc.1.2
  refine ⟨hc.1.1,hne,rootB_lt _ _ hne,?_⟩
  intro q hq
  obtain ⟨r,_,rfl⟩:=List.mem_map.1 hq
  obtain ⟨L',x',m',ps'⟩:=r
  rfl
 ·cases h
theorem says_bound (ps:List BP) (p:BP) (k:Nat) (h:(kindB p.head).1 = htmN):saysP (boundP ps p k) = (linksB p).map (boundV ps p.loc k):=by
 have hl:linksB p = saysP p.body:=by unfold linksB; rw [if_pos h]
 unfold boundP
 by_cases h0:linksB p = []
 ·rw [if_pos h0,← hl,h0]
  rfl
 ·rw [if_neg h0]
  obtain ⟨_,hR⟩:=page_turned p.body (itsP p.body) (tlP p.body) (itsP_run p.body) ((linksB p).map (boundV ps p.loc k))
  obtain ⟨e1,_⟩:=itsP_det _ _ _ hR
  unfold saysP
  rw [e1,links_vals]
  ·rw [List.map_map]
   have e:(unescS ∘ escS) = id:=by funext x; exact unescS_esc x
   rw [e,List.map_id]
  ·rw [List.length_map,List.length_map,hl]
   unfold saysP
   rw [List.length_map,links_len]
def likesL (l m:List (List UInt8 × Option Nat)):Prop:=l.length = m.length∧∀ k (h:k < l.length) (h':k < m.length),likeL l[k] m[k]
theorem likes_map {α:Type} (f g:α → List UInt8 × Option Nat) (l:List α) (h:∀ x ∈ l,likeL (f x) (g x)):likesL (l.map f) (l.map g):=by
 refine ⟨by simp,fun k hk hk'=>?_⟩
 rw [List.getElem_map,List.getElem_map]
 exact h _ (List.getElem_mem _)
theorem bundle_back (b:BB) (ho:Opened b) (k:Nat) (hk:∀ t ∈ textsB b,Apart (markB k) t) (bd:List UInt8) (hbd:okBd bd) (hows:Nat → List UInt8) :
  ∃ c,openB (backB b k bd hows) = some c∧c.root = b.root∧c.ps.length = b.ps.length∧∀ i (h:i < b.ps.length) (h':i < c.ps.length),c.ps[i].loc = b.ps[i].loc∧(leadsB b.ps b.ps[i] = [] → c.ps[i].body = b.ps[i].body)∧likesL (leadsB b.ps b.ps[i]) (leadsB c.ps c.ps[i]):=by
 obtain ⟨kr,ks⟩:=kind_bound b.head ho.rel b.root k bd hbd
 have hbase:placeB zeroA (setCT bd (withStart b.head (newId b.root k))) = placeB zeroA b.head:=place_whole _ _ _ _
 obtain ⟨cs,hcs⟩:∃ cs:List BP,cs = b.ps.mapIdx fun n p=>⟨stripH (withId p.head n k)++[(cteB,hows n)],boundP b.ps p k,newId n k,p.loc⟩:=⟨_,rfl⟩
 have hlen:cs.length = b.ps.length:=by rw [hcs]; simp
 have hmap:(b.ps.mapIdx fun n p=>PT.mk (stripH (withId p.head n k)++[(cteB,hows n)]) (boundP b.ps p k) false []).map (pieceB (placeB zeroA b.head)) = cs:=by
  rw [hcs]
  refine List.ext_getElem (by simp) (fun i h1 h2=>?_)
  rw [List.getElem_map,List.getElem_mapIdx,List.getElem_mapIdx,piece_bound]
  congr 1
  exact (ho.loc _ (List.getElem_mem _)).symm
 have hid:∀ i (h:i < cs.length),cs[i].id = newId i k:=by
  intro i h
  subst hcs
  simp
 have hloc:cs.map BP.loc = b.ps.map BP.loc:=by
  subst hcs
  refine List.ext_getElem (by simp) (fun i h1 h2=>?_)
  simp
 have hopen:openB (backB b k bd hows) = some ⟨setCT bd (withStart b.head (newId b.root k)),cs,b.root⟩:=by
  rw [backB,openB]
  have c1:((b.ps.mapIdx fun n p=>PT.mk (stripH (withId p.head n k)++[(cteB,hows n)]) (boundP b.ps p k) false []).isEmpty) = false:=by
   rw [List.isEmpty_eq_false_iff]
   intro e
   have:=congrArg List.length e
   rw [List.length_mapIdx] at this
   exact ho.some (List.eq_nil_of_length_eq_zero this)
  have c2:(b.ps.mapIdx fun n p=>PT.mk (stripH (withId p.head n k)++[(cteB,hows n)]) (boundP b.ps p k) false []).all (fun p=>!manyB p) = true:=by
   rw [List.all_eq_true]
   intro q hq
   obtain ⟨i,hi,rfl⟩:=List.mem_mapIdx.1 hq
   rfl
  rw [c1,c2,kr,hbase,hmap,ks,root_at cs k b.root hid (by rw [hlen]; exact ho.root)]
  simp
 refine ⟨_,hopen,rfl,hlen,fun i h h'=>?_⟩
 show cs[i].loc = _∧(_ → cs[i].body = _)∧likesL _ (leadsB cs cs[i])
 have hci:cs[i]'h' = ⟨stripH (withId b.ps[i].head i k)++[(cteB,hows i)],boundP b.ps b.ps[i] k,newId i k,b.ps[i].loc⟩:=by
  subst hcs
  simp
 rw [hci]
 have hpm:b.ps[i] ∈ b.ps:=List.getElem_mem h
 have hheads:∀ f ∈ b.head,Apart (markB k) f.2:=fun f hf=>hk f.2 (by
  unfold textsB
  exact List.mem_append_left _ (List.mem_map_of_mem (f:=fun g:PB=>g.2) hf))
 have hpt:∀ t ∈ (b.ps[i].head.map (·.2)++[b.ps[i].body]),Apart (markB k) t:=fun t ht=>hk t (by
  unfold textsB
  exact List.mem_append_right _ (List.mem_flatMap.2 ⟨b.ps[i],hpm,ht⟩))
 have hbody:Apart (markB k) b.ps[i].body:=hpt _ (by simp)
 have hfree:FreeP (markB k) b.ps[i].loc.path:=by
  rw [ho.loc _ hpm]
  refine free_place _ _ (free_place _ _ (free_nil (markB_ne k)) hheads) ?_
  intro f hf
  exact hpt f.2 (List.mem_append_left _ (List.mem_map_of_mem (f:=fun g:PB=>g.2) hf))
 refine ⟨rfl,?_,?_⟩
 ·intro e
  have:linksB b.ps[i] = []:=by
   unfold leadsB at e
   exact List.map_eq_nil_iff.1 e
  show boundP b.ps b.ps[i] k = _
  unfold boundP
  rw [if_pos this]
 ·have hlb:leadsB cs ⟨stripH (withId b.ps[i].head i k)++[(cteB,hows i)],boundP b.ps b.ps[i] k,newId i k,b.ps[i].loc⟩ = (linksB b.ps[i]).map fun v=>leadB cs b.ps[i].loc (boundV b.ps b.ps[i].loc k v):=by
   unfold leadsB
   have e:linksB ⟨stripH (withId b.ps[i].head i k)++[(cteB,hows i)],boundP b.ps b.ps[i] k,newId i k,b.ps[i].loc⟩ = (linksB b.ps[i]).map (boundV b.ps b.ps[i].loc k):=by
    by_cases hh:(kindB b.ps[i].head).1 = htmN
    ·rw [← says_bound b.ps b.ps[i] k hh]
     show (if (kindB (stripH (withId b.ps[i].head i k)++[(cteB,hows i)])).1 = htmN then _ else _) = _
     rw [kind_withId,if_pos hh]
    ·have e0:linksB b.ps[i] = []:=by unfold linksB; rw [if_neg hh]
     rw [e0]
     show (if (kindB (stripH (withId b.ps[i].head i k)++[(cteB,hows i)])).1 = htmN then _ else _) = _
     rw [kind_withId,if_neg hh]
     rfl
   rw [e,List.map_map]
   rfl
  rw [hlb]
  unfold leadsB
  refine likes_map _ _ _ (fun v hv=>lead_back b.ps cs k hid hloc _ hfree v ?_)
  unfold linksB at hv
  split at hv
  ·exact apart_says hbody v hv
  ·cases hv
end Go.Proofs.YtknhacbfddggpaaGreatDoor
