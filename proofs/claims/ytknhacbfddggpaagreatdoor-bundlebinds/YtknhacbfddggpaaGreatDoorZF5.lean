import Derived.Test.YtknhacbfddggpaaGreatDoorZ7
import Derived.Test.YtknhacbfddggpaaGreatDoorZ16
import Derived.Test.YtknhacbfddggpaaGreatDoorZ12
import Derived.Test.YtknhacbfddggpaaGreatDoorZ13
import Derived.Test.YtknhacbfddggpaaGreatDoorZ10
import Derived.Lib.ItoaNum
namespace Go.Proofs.YtknhacbfddggpaaGreatDoor
open Go.RowKit
def numB (n:Nat):List UInt8:=98 :: Lib.decDigits n
def standsIn (xs:List (List UInt8)) (n:Nat):Bool:=xs.any fun x=>Lib.contains x (lead (numB n))
theorem contains_iff (x sub:List UInt8):Lib.contains x sub = true ↔ ∃ u v,x = u++sub++v:=by
 unfold Lib.contains
 rw [decide_eq_true_eq]
 rcases Lib.index_spec x sub with ⟨h,hn⟩ | ⟨i,h,hi,ho,_⟩
 ·rw [h]
  constructor
  ·intro h'; omega
  ·rintro ⟨u,v,e⟩
   have:=hn u.length (by rw [e]; simp)
   unfold Lib.occAt at this
   rw [e,List.append_assoc,List.drop_left] at this
   have hp:sub.isPrefixOf (sub++v) = true:=List.isPrefixOf_iff_prefix.2 (List.prefix_append _ _)
   rw [hp] at this
   cases this
 ·rw [h]
  constructor
  ·intro _
   unfold Lib.occAt at ho
   obtain ⟨v,hv⟩:=List.isPrefixOf_iff_prefix.1 ho
   refine ⟨x.take i,v,?_⟩
   rw [List.append_assoc,hv,List.take_append_drop]
  ·intro _; omega
theorem contains_not (x sub:List UInt8) (h:Lib.contains x sub = false):Apart sub x:=by
 intro u v e
 have:=(contains_iff x sub).2 ⟨u,v,e⟩
 rw [h] at this
 cases this
theorem pigeon:∀ (m:Nat) (l:List Nat) (a:Nat),(∀ n,a ≤ n → n < a+m → n ∈ l) → m ≤ l.length
 | 0,_,_,_=>Nat.zero_le _
 | m+1,l,a,h=>by
  have hm:=h (a+m) (by omega) (by omega)
  have:=pigeon m (l.erase (a+m)) a (fun n h1 h2=>(List.mem_erase_of_ne (by omega)).2 (h n h1 (by omega)))
  rw [List.length_erase_of_mem hm] at this
  have:=List.length_pos_of_mem hm
  omega
theorem miss (xs:List (List UInt8)) (k:Nat) (h:xs.flatten.length < 9 * 10 ^ k):∃ n,n < 10 ^ (k+1)∧standsIn xs n = false:=by
 have hk:0 < 10 ^ k:=Nat.pow_pos (by decide)
 apply Classical.byContradiction
 intro hc
 have hall:∀ n,n < 10 ^ (k+1) → standsIn xs n = true:=fun n hn=>by
  cases hs:standsIn xs n
  ·exact absurd ⟨n,hn,hs⟩ hc
  ·rfl
 have key:∀ n,10 ^ k ≤ n → n < 10 ^ k+(xs.flatten.length+1) → n ∈ (List.range xs.flatten.length).map fun p=>decVal ((xs.flatten.drop (p+3)).take (k+1)):=by
  intro n h1 h2
  have hn:n < 10 ^ (k+1):=by rw [Nat.pow_succ]; omega
  have hs:=hall n hn
  unfold standsIn at hs
  rw [List.any_eq_true] at hs
  obtain ⟨x,hx,hin⟩:=hs
  obtain ⟨u,v,e⟩:=(contains_iff _ _).1 hin
  obtain ⟨A,B,hAB⟩:=List.append_of_mem hx
  have hF:xs.flatten = (A.flatten++u)++(lead (numB n)++(v++B.flatten)):=by rw [hAB,List.flatten_append,List.flatten_cons,e]; simp
  rw [List.mem_map]
  refine ⟨(A.flatten++u).length,List.mem_range.2 ?_,?_⟩
  ·rw [hF,List.length_append]
   simp only [lead,numB,List.length_append,List.length_cons]
   omega
  ·have hd:xs.flatten.drop ((A.flatten++u).length+3) = Lib.decDigits n++(v++B.flatten):=by
    rw [hF,← List.drop_drop,List.drop_left]
    rfl
   have hl:(Lib.decDigits n).length = k+1:=by rw [Lib.decDigits_length,Lib.nDigits_unique k n h1 hn]
   show decVal ((xs.flatten.drop ((A.flatten++u).length+3)).take (k+1)) = n
   rw [hd,← hl,List.take_left,decVal_digits]
 have:=pigeon (xs.flatten.length+1) _ (10 ^ k) key
 rw [List.length_map,List.length_range] at this
 omega
def leastN (p:Nat → Bool):Nat → Nat → Nat
 | 0,a=>a
 | f+1,a=>if p a then a else leastN p f (a+1)
theorem leastN_spec (p:Nat → Bool):∀ (f a n:Nat),a ≤ n → n < a+f → p n = true → p (leastN p f a) = true∧leastN p f a ≤ n∧a ≤ leastN p f a∧∀ m,a ≤ m → m < leastN p f a → p m = false
 | 0,a,n,h1,h2,_=>by omega
 | f+1,a,n,h1,h2,hp=>by
  unfold leastN
  by_cases ha:p a = true
  ·rw [if_pos ha]
   exact ⟨ha,h1,Nat.le_refl _,fun m h3 h4=>by omega⟩
  ·rw [if_neg ha]
   have hne:a ≠ n:=fun e=>ha (by rw [e]; exact hp)
   obtain ⟨i1,i2,i3,i4⟩:=leastN_spec p f (a+1) n (by omega) (by omega) hp
   refine ⟨i1,i2,by omega,fun m h3 h4=>?_⟩
   by_cases hm:m = a
   ·rw [hm]; simpa using ha
   ·exact i4 m (by omega) h4
def firstN (xs:List (List UInt8)):Nat:=leastN (fun n=>!standsIn xs n) (10 ^ (xs.flatten.length+1)) 0
def bndS (xs:List (List UInt8)):List UInt8:=numB (firstN xs)
theorem pow_gt:∀ k:Nat,k < 9 * 10 ^ k
 | 0=>by decide
 | k+1=>by
  have:=pow_gt k
  rw [Nat.pow_succ]
  omega
theorem firstN_spec (xs:List (List UInt8)):standsIn xs (firstN xs) = false∧∀ m,m < firstN xs → standsIn xs m = true:=by
 obtain ⟨n,hn,hs⟩:=miss xs xs.flatten.length (pow_gt _)
 obtain ⟨i1,_,_,i4⟩:=leastN_spec (fun n=>!standsIn xs n) (10 ^ (xs.flatten.length+1)) 0 n (Nat.zero_le _) (by omega) (by simp [hs])
 have i1':(!standsIn xs (firstN xs)) = true:=i1
 refine ⟨by simpa using i1',fun m hm=>?_⟩
 have h':(!standsIn xs m) = false:=i4 m (Nat.zero_le _) hm
 simpa using h'
theorem firstN_le (xs:List (List UInt8)) (n:Nat) (h:standsIn xs n = false):firstN xs ≤ n:=by
 apply Classical.byContradiction
 intro hc
 have:=(firstN_spec xs).2 n (by omega)
 rw [h] at this
 cases this
theorem digit_tok (c:UInt8) (h1:48 ≤ c.toNat) (h2:c.toNat ≤ 57):tokC c = true:=by
 have key:∀ n:Fin 256,48 ≤ n.val → n.val ≤ 57 → tokC (UInt8.ofNat n.val) = true:=by decide +kernel
 have:=key ⟨c.toNat,c.toNat_lt⟩ h1 h2
 simpa using this
theorem bnd_ok (xs:List (List UInt8)) (h:xs.flatten.length ≤ 20000):okBd (bndS xs):=by
 obtain ⟨n,hn,hs⟩:=miss xs 4 (by omega)
 have hle:=firstN_le xs n hs
 have hd:=nDigits_le 4 (firstN xs) (by omega)
 refine ⟨by simp [bndS,numB],?_,?_⟩
 ·show (Lib.decDigits (firstN xs)).length+1 ≤ 70
  rw [Lib.decDigits_length]; omega
 ·intro c hc
  rcases List.mem_cons.1 hc with rfl | hc
  ·decide
  ·obtain ⟨h1,h2⟩:=digits_are _ c hc
   exact digit_tok c h1 h2
theorem bnd_apart (xs:List (List UInt8)):∀ x ∈ xs,Apart (lead (bndS xs)) x:=by
 intro x hx
 have h:=(firstN_spec xs).1
 unfold standsIn at h
 rw [List.any_eq_false] at h
 have h':=h x hx
 rw [Bool.not_eq_true] at h'
 exact contains_not _ _ h'
def toF (p:PB):Fl:=(⟨p.1.toArray⟩,⟨p.2.toArray⟩)
theorem fl2_toF (p:PB):fl2 (toF p) = p:=by simp [fl2,toF]
theorem right_toF (L:List PB):(L.map toF).all rightF = L.all rightB:=by
 rw [List.all_map]
 congr 1
def headW (L:List PB):List UInt8:=fieldsB (L.map toF)++[13,10]
theorem clean_all:∀ (L:List Fl),L.all rightF = true → (L.map bodyF).all okB = true∧(L.map bodyF).map (fun f=>(f.1,trimS f.2)) = L.map fl2
 | [],_=>⟨rfl,rfl⟩
 | f :: L,h=>by
  simp only [List.all_cons,Bool.and_eq_true] at h
  obtain ⟨i1,i2⟩:=clean_all L h.2
  have e3:trimS (bodyF f).2 = f.2.data.toList:=trim_body f h.1
  have ho:okB (bodyF f) = true:=by
   unfold okB
   rw [e3]
   exact (right_parts h.1).2.2.2.2.2
  refine ⟨by rw [List.map_cons,List.all_cons,ho,i1]; rfl,?_⟩
  rw [List.map_cons,List.map_cons,List.map_cons,i2,e3]
  rfl
theorem head_back (L:List PB) (rest:List UInt8) (h:L.all rightB = true):headR (headW L++rest) = .ok (L,rest):=by
 have hr:(L.map toF).all rightF = true:=by rw [right_toF]; exact h
 obtain ⟨h1,h2⟩:=read_back (L.map toF) hr rest
 obtain ⟨c1,c2⟩:=clean_all (L.map toF) hr
 unfold headR headW
 rw [h1,h2]
 simp only [c1,if_true,c2]
 have:(L.map toF).map fl2 = L:=by
  rw [List.map_map]
  conv=>rhs; rw [← List.map_id L]
  exact List.map_congr_left fun p _=>fl2_toF p
 rw [this]
theorem refRun_names:∀ (xs:List (List UInt8)) (n:Nat) (acc M:List FB),(∀ f ∈ acc,nameS f.1 = true) → refRun xs n acc = .ok M → ∀ f ∈ M,nameS f.1 = true
 | [],n,acc,M,ha,h=>by
  rw [refRun] at h
  cases h
  exact ha
 | x :: xs,n,acc,M,ha,h=>by
  rw [refRun] at h
  by_cases hg:(goes x && !acc.isEmpty) = true
  ·rw [if_pos hg] at h
   refine refRun_names xs (n+1) (addLast acc x) M (fun f hf=>?_) h
   unfold addLast at hf
   cases hl:acc.getLast? with
   | none=>rw [hl] at hf; exact ha f hf
   | some g =>
    rw [hl] at hf
    rcases List.mem_append.1 hf with hf | hf
    ·exact ha f (List.dropLast_subset _ hf)
    ·rw [List.mem_singleton.1 hf]
     exact ha g (List.mem_of_getLast? hl)
  ·rw [if_neg hg] at h
   cases hfo:fieldOf x with
   | none=>rw [hfo] at h; cases h
   | some f =>
    rw [hfo] at h
    refine refRun_names xs (n+1) (acc++[f]) M (fun g hg2=>?_) h
    rcases List.mem_append.1 hg2 with hg2 | hg2
    ·exact ha g hg2
    ·rw [List.mem_singleton.1 hg2]
     unfold fieldOf at hfo
     by_cases hc:((Lib.cut x [58]).2.2 && nameS (Lib.cut x [58]).1) = true
     ·rw [if_pos hc] at hfo
      simp only [Bool.and_eq_true] at hc
      rw [← Option.some.inj hfo]
      exact hc.2
     ·rw [if_neg hc] at hfo; cases hfo
theorem head_good (s:List UInt8) (L:List PB) (rest:List UInt8) (h:headR s = .ok (L,rest)):L.all rightB = true:=by
 unfold headR at h
 cases hr:refRun (hl s).1 0 [] with
 | error e=>rw [hr] at h; cases h
 | ok M =>
  rw [hr] at h
  simp only at h
  by_cases hm:M.all okB = true
  ·rw [if_pos hm] at h
   simp only [Except.ok.injEq,Prod.mk.injEq] at h
   rw [← h.1,List.all_map,List.all_eq_true]
   intro f hf
   have hn:=refRun_names _ _ _ _ (fun g hg=>absurd hg (by simp)) hr f hf
   have ho:=List.all_eq_true.1 hm f hf
   show (nameS f.1 && saysS (trimS f.2)) = true
   rw [hn]
   exact ho
  ·rw [if_neg hm] at h; cases h
def Y0:Beneath where
 hw:=headW
 hr:=headR
 pk:=Tx.packS
 up:=Tx.unpackS
 qt:=Tx.quoteS
 uq:=Tx.unquoteS
 bnd:=bndS
 back:=fun L rest h=>head_back L rest h
 good:=fun s L rest h=>head_good s L rest h
 up_pk:=Tx.unpack_pack
 uq_qt:=Tx.unquote_quote
 bok:=bnd_ok
 bap:=bnd_apart
end Go.Proofs.YtknhacbfddggpaaGreatDoor
