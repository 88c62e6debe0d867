import Derived.Test.YtknhacbfddggpaaGreatDoorZ11
import Derived.Lib.SplitLaws
namespace Go.Proofs.YtknhacbfddggpaaGreatDoor.Tx
open Go.RowKit Go.Proofs.Sx
theorem lettv_lett (n:Nat) (h:n < 64):lettv (lett n) = (n:Int):=by
 have:∀ n:Fin 64,lettv (lett n.val) = (n.val:Int):=by decide +kernel
 exact this ⟨n,h⟩
def b64 (c:UInt8):Bool:=letters.contains c || c == 61
theorem b64_lett (n:Nat) (h:n < 64):b64 (lett n) = true∧(lett n == 61) = false:=by
 have:∀ n:Fin 64,b64 (lett n.val) = true∧(lett n.val == 61) = false:=by decide +kernel
 exact this ⟨n,h⟩
theorem b64_skip (c:UInt8) (h:b64 c = true):isSkip c = false∧c ≠ 13∧32 ≤ c.toNat∧c.toNat ≤ 126∧c ≠ 32∧c ≠ 9:=by
 have key:∀ c ∈ letters++[61],isSkip c = false∧c ≠ 13∧32 ≤ c.toNat∧c.toNat ≤ 126∧c ≠ 32∧c ≠ 9:=by decide
 apply key
 unfold b64 at h
 simp only [Bool.or_eq_true,List.contains_iff_mem,beq_iff_eq] at h
 rcases h with h | h
 ·exact List.mem_append_left _ h
 ·subst h; exact List.mem_append_right _ (by simp)
theorem fourL_b64 (b:List UInt8):∀ c ∈ fourL b,b64 c = true:=by
 have h61:b64 61 = true:=by decide
 intro c hc
 simp only [fourL,fourN,List.mem_cons,List.not_mem_nil,or_false] at hc
 rcases hc with rfl | rfl | rfl | rfl
 ·exact (b64_lett _ (Nat.mod_lt _ (by omega))).1
 ·exact (b64_lett _ (Nat.mod_lt _ (by omega))).1
 ·split
  ·exact (b64_lett _ (Nat.mod_lt _ (by omega))).1
  ·exact h61
 ·split
  ·exact (b64_lett _ (Nat.mod_lt _ (by omega))).1
  ·exact h61
theorem packTo_b64 (b:List UInt8) (k:Nat):∀ c ∈ packTo b k,b64 c = true:=by
 induction k with
 | zero=>intro c hc; cases hc
 | succ k ih =>
  intro c hc
  rw [packTo,List.mem_append] at hc
  rcases hc with hc | hc
  ·exact ih c hc
  ·exact fourL_b64 _ c hc
theorem solidL_append (a b:List UInt8):solidL (a++b) = solidL a++solidL b:=by unfold solidL; rw [List.filter_append]
theorem solid_inLines (l:List UInt8) (hl:∀ c ∈ l,b64 c = true) (k:Nat) (hk:k ≤ l.length):solidL (inLinesTo l k) = l.take k:=by
 induction k with
 | zero=>simp [inLinesTo,solidL]
 | succ k ih =>
  have hk':k < l.length:=by omega
  have hg:l.getD k 0 = l[k]:=by rw [List.getD_eq_getElem?_getD,List.getElem?_eq_getElem hk']; rfl
  have hs:isSkip l[k] = false:=(b64_skip _ (hl _ (List.getElem_mem hk'))).1
  have h2:solidL (if (k+1) % 76 = 0 ∨ k+1 = l.length then [13,10] else []) = []:=by split <;> rfl
  rw [inLinesTo,solidL_append,solidL_append,ih (by omega),h2,hg,List.append_nil,take_snocL l k hk']
  congr 1
  simp [solidL,hs]
theorem solid_pack (b:List UInt8):solidL (packS b) = packTo b ((b.length+2) / 3):=by
 unfold packS
 rw [solid_inLines _ (packTo_b64 _ _) _ (Nat.le_refl _),List.take_length]
theorem jstep (o:List UInt8) (N C n:Nat) (hn:n < 64):joinStep (o,N,C) (lett n) =
  if 8 ≤ C+6 then some (o++[UInt8.ofNat ((N * 64+n) / 2 ^ (C+6 - 8))],(N * 64+n) % 2 ^ (C+6 - 8),C+6 - 8) else some (o,N * 64+n,C+6):=by
 unfold joinStep
 have h:=lettv_lett n hn
 rw [h,if_neg (by omega)]
 simp only [Int.toNat_natCast]
theorem jstep0 (o:List UInt8) (N n:Nat) (hn:n < 64):joinStep (o,N,0) (lett n) = some (o,N * 64+n,6):=by rw [jstep o N 0 n hn]; rfl
theorem jstep6 (o:List UInt8) (N n:Nat) (hn:n < 64):joinStep (o,N,6) (lett n) = some (o++[UInt8.ofNat ((N * 64+n) / 16)],(N * 64+n) % 16,4):=by rw [jstep o N 6 n hn]; rfl
theorem jstep4 (o:List UInt8) (N n:Nat) (hn:n < 64):joinStep (o,N,4) (lett n) = some (o++[UInt8.ofNat ((N * 64+n) / 4)],(N * 64+n) % 4,2):=by rw [jstep o N 4 n hn]; rfl
theorem jstep2 (o:List UInt8) (N n:Nat) (hn:n < 64):joinStep (o,N,2) (lett n) = some (o++[UInt8.ofNat ((N * 64+n) / 1)],(N * 64+n) % 1,0):=by rw [jstep o N 2 n hn]; rfl
def jf (q:Option (List UInt8 × Nat × Nat)) (c:UInt8):Option (List UInt8 × Nat × Nat):=q.bind fun q=>joinStep q c
theorem jf_some (q:List UInt8 × Nat × Nat) (c:UInt8):jf (some q) c = joinStep q c:=rfl
theorem ofNat_eq (n:Nat) (x:UInt8) (h:n = x.toNat):UInt8.ofNat n = x:=by subst h; simp
theorem join_four (o:List UInt8) (x y z:UInt8):(fourL [x,y,z]).foldl jf (some (o,0,0)) = some (o++[x,y,z],0,0):=by
 have hx:=x.toNat_lt
 have hy:=y.toNat_lt
 have hz:=z.toNat_lt
 obtain ⟨N,hN⟩:∃ N,N = (x.toNat * 256+y.toNat) * 256+z.toNat:=⟨_,rfl⟩
 have e:fourL [x,y,z] = [lett (N / 262144 % 64),lett (N / 4096 % 64),lett (N / 64 % 64),lett (N % 64)]:=by rw [hN]; rfl
 rw [e]
 simp only [List.foldl_cons,List.foldl_nil,jf_some]
 rw [jstep0 _ _ _ (Nat.mod_lt _ (by omega)),jf_some,jstep6 _ _ _ (Nat.mod_lt _ (by omega)),jf_some,jstep4 _ _ _ (Nat.mod_lt _ (by omega)),jf_some,jstep2 _ _ _ (Nat.mod_lt _ (by omega))]
 rw [ofNat_eq _ x (by omega),ofNat_eq _ y (by omega),ofNat_eq _ z (by omega)]
 simp
 omega
theorem join_three (o:List UInt8) (x y:UInt8):((fourL [x,y]).take 3).foldl jf (some (o,0,0)) = some (o++[x,y],0,2):=by
 have hx:=x.toNat_lt
 have hy:=y.toNat_lt
 obtain ⟨N,hN⟩:∃ N,N = bitsOf [x,y]:=⟨_,rfl⟩
 have hM:bitsOf [x,y] = (x.toNat * 256+y.toNat) * 256:=by simp [bitsOf]
 have e:(fourL [x,y]).take 3 = [lett (N / 262144 % 64),lett (N / 4096 % 64),lett (N / 64 % 64)]:=by rw [hN]; rfl
 rw [e]
 simp only [List.foldl_cons,List.foldl_nil,jf_some]
 rw [jstep0 _ _ _ (Nat.mod_lt _ (by omega)),jf_some,jstep6 _ _ _ (Nat.mod_lt _ (by omega)),jf_some,jstep4 _ _ _ (Nat.mod_lt _ (by omega))]
 rw [ofNat_eq _ x (by omega),ofNat_eq _ y (by omega)]
 simp
 omega
theorem join_two (o:List UInt8) (x:UInt8):((fourL [x]).take 2).foldl jf (some (o,0,0)) = some (o++[x],0,4):=by
 have hx:=x.toNat_lt
 obtain ⟨N,hN⟩:∃ N,N = bitsOf [x]:=⟨_,rfl⟩
 have hM:bitsOf [x] = x.toNat * 256 * 256:=by simp [bitsOf]
 have e:(fourL [x]).take 2 = [lett (N / 262144 % 64),lett (N / 4096 % 64)]:=by rw [hN]; rfl
 rw [e]
 simp only [List.foldl_cons,List.foldl_nil,jf_some]
 rw [jstep0 _ _ _ (Nat.mod_lt _ (by omega)),jf_some,jstep6 _ _ _ (Nat.mod_lt _ (by omega))]
 rw [ofNat_eq _ x (by omega)]
 simp
 omega
theorem joinAll_jf (l:List UInt8):joinAll l = l.foldl jf (some ([],0,0)):=rfl
theorem take_three (b:List UInt8) (k:Nat) (h:3 * k+3 ≤ b.length):∃ x y z,(b.drop (3 * k)).take 3 = [x,y,z]∧b.take (3 * (k+1)) = b.take (3 * k)++[x,y,z]:=by
 have hl:((b.drop (3 * k)).take 3).length = 3:=by rw [List.length_take,List.length_drop]; omega
 match hm:(b.drop (3 * k)).take 3,hl with
 | [x,y,z],_=>
  refine ⟨x,y,z,rfl,?_⟩
  rw [show 3 * (k+1) = 3 * k+3 from by omega,List.take_add,hm]
theorem join_pack (b:List UInt8) (k:Nat) (h:3 * k ≤ b.length):joinAll (packTo b k) = some (b.take (3 * k),0,0):=by
 induction k with
 | zero=>rfl
 | succ k ih =>
  obtain ⟨x,y,z,h1,h2⟩:=take_three b k (by omega)
  rw [joinAll_jf,packTo,List.foldl_append,← joinAll_jf,ih (by omega),h1,join_four,h2]
theorem getD_append_right (a l:List UInt8) (i:Nat):(a++l).getD (a.length+i) 0 = l.getD i 0:=by
 rw [List.getD_eq_getElem?_getD,List.getD_eq_getElem?_getD,List.getElem?_append_right (by omega),Nat.add_sub_cancel_left]
theorem fillN_append (a l:List UInt8) (h:2 ≤ l.length):fillN (a++l) = fillN l:=by
 unfold fillN
 rw [List.length_append,show a.length+l.length - 1 = a.length+(l.length - 1) from by omega,show a.length+l.length - 2 = a.length+(l.length - 2) from by omega,getD_append_right,getD_append_right]
 simp only [show (1 ≤ a.length+l.length) = True from by simp; omega,show (2 ≤ a.length+l.length) = True from by simp; omega,show (1 ≤ l.length) = True from by simp; omega,show (2 ≤ l.length) = True from by simp; omega]
theorem fillN_four (c0 c1 c2 c3:UInt8):fillN [c0,c1,c2,c3] = if c3 = 61 then if c2 = 61 then 2 else 1 else 0:=by
 unfold fillN
 simp
theorem lett_ne (n:Nat) (h:n < 64):lett n ≠ 61:=by
 have:=(b64_lett n h).2
 simpa using this
theorem unpack_solid (s b:List UInt8) (h:solidL s = packTo b ((b.length+2) / 3)):unpackS s = some b:=by
 unfold unpackS
 rw [h]
 have hl:=packTo_length b ((b.length+2) / 3)
 rw [hl,if_pos (by omega)]
 obtain ⟨k,hk⟩:∃ k,k = b.length / 3:=⟨_,rfl⟩
 have hr:b.length % 3 = 0 ∨ b.length % 3 = 1 ∨ b.length % 3 = 2:=by omega
 rcases hr with hr | hr | hr
 ·have hm:(b.length+2) / 3 = k:=by omega
  rw [hm]
  have hf:fillN (packTo b k) = 0:=by
   cases k with
   | zero=>rfl
   | succ k =>
    obtain ⟨x,y,z,h1,_⟩:=take_three b k (by omega)
    rw [packTo,fillN_append _ _ (by rw [fourL_length]; omega),h1]
    rw [show fourL [x,y,z] = [lett _,lett _,lett _,lett _] from rfl,fillN_four,if_neg (lett_ne _ (Nat.mod_lt _ (by omega)))]
  rw [hf,List.take_of_length_le (by rw [packTo_length]; omega)]
  unfold joinedS
  rw [join_pack b k (by omega),List.take_of_length_le (by omega)]
  rfl
 ·have hm:(b.length+2) / 3 = k+1:=by omega
  have hd:∃ x,(b.drop (3 * k)).take 3 = [x]∧b = b.take (3 * k)++[x]:=by
   have hlen:(b.drop (3 * k)).length = 1:=by rw [List.length_drop]; omega
   match hx:b.drop (3 * k),hlen with
   | [x],_=>exact ⟨x,rfl,by rw [← hx,List.take_append_drop]⟩
  obtain ⟨x,h1,h2⟩:=hd
  rw [hm,packTo,fillN_append _ _ (by rw [fourL_length]; omega),h1]
  rw [show fillN (fourL [x]) = 2 from by rw [show fourL [x] = [lett _,lett _,61,61] from rfl,fillN_four]; rfl]
  rw [List.take_append,List.take_of_length_le (by rw [packTo_length]; omega),packTo_length,show 4 * (k+1) - 2 - 4 * k = 2 from by omega]
  unfold joinedS
  rw [joinAll_jf,List.foldl_append,← joinAll_jf,join_pack b k (by omega),join_two]
  show some (b.take (3 * k)++[x]) = some b
  rw [← h2]
 ·have hm:(b.length+2) / 3 = k+1:=by omega
  have hd:∃ x y,(b.drop (3 * k)).take 3 = [x,y]∧b = b.take (3 * k)++[x,y]:=by
   have hlen:(b.drop (3 * k)).length = 2:=by rw [List.length_drop]; omega
   match hx:b.drop (3 * k),hlen with
   | [x,y],_=>exact ⟨x,y,rfl,by rw [← hx,List.take_append_drop]⟩
  obtain ⟨x,y,h1,h2⟩:=hd
  rw [hm,packTo,fillN_append _ _ (by rw [fourL_length]; omega),h1]
  rw [show fillN (fourL [x,y]) = 1 from by rw [show fourL [x,y] = [lett _,lett _,lett _,61] from rfl,fillN_four,if_pos rfl,if_neg (lett_ne _ (Nat.mod_lt _ (by omega)))]]
  rw [List.take_append,List.take_of_length_le (by rw [packTo_length]; omega),packTo_length,show 4 * (k+1) - 1 - 4 * k = 3 from by omega]
  unfold joinedS
  rw [joinAll_jf,List.foldl_append,← joinAll_jf,join_pack b k (by omega),join_three]
  show some (b.take (3 * k)++[x,y]) = some b
  rw [← h2]
theorem unpack_pack (b:List UInt8):unpackS (packS b) = some b:=unpack_solid _ _ (solid_pack b)
end Go.Proofs.YtknhacbfddggpaaGreatDoor.Tx
namespace Go.Proofs.YtknhacbfddggpaaGreatDoor.Tx
open Go.RowKit Go.Proofs.Sx
def joinLines (Ls:List (List UInt8)) (cur:List UInt8):List UInt8:=Ls.flatMap (fun l=>l++[13,10])++cur
theorem joinLines_cons (l:List UInt8) (Ls:List (List UInt8)) (cur:List UInt8):joinLines (l :: Ls) cur = l++[13,10]++joinLines Ls cur:=by simp [joinLines]
theorem joinLines_append (Ls:List (List UInt8)) (cur x:List UInt8):joinLines Ls cur++x = joinLines Ls (cur++x):=by simp [joinLines]
theorem joinLines_snoc (Ls:List (List UInt8)) (cur x y:List UInt8):joinLines Ls cur++(x++[13,10])++y = joinLines (Ls++[cur++x]) y:=by simp [joinLines]
theorem index_hitL (x r:List UInt8) (h:∀ c ∈ x,c ≠ 13):Lib.index (x++[13,10]++r) [13,10] = (x.length:Int):=by
 induction x with
 | nil=>rw [List.nil_append]; show Lib.index (13 :: 10 :: r) [13,10] = _; unfold Lib.index; simp
 | cons b x ih =>
  have hb:b ≠ 13:=h b (by simp)
  have ih':=ih (fun c hc=>h c (by simp [hc]))
  have hp:([13,10]:List UInt8).isPrefixOf (b :: (x++[13,10]++r)) = false:=by simp [List.isPrefixOf,Ne.symm hb]
  show Lib.index (b :: (x++[13,10]++r)) [13,10] = _
  rw [Lib.index,hp,ih',if_neg (by simp),if_neg (by simp)]
  simp
theorem index_missL (x:List UInt8) (h:∀ c ∈ x,c ≠ 13):Lib.index x [13,10] = -1:=by
 induction x with
 | nil=>rfl
 | cons b x ih =>
  have hb:b ≠ 13:=h b (by simp)
  have ih':=ih (fun c hc=>h c (by simp [hc]))
  have hp:([13,10]:List UInt8).isPrefixOf (b :: x) = false:=by simp [List.isPrefixOf,Ne.symm hb]
  rw [Lib.index,hp,ih']
  rfl
theorem drop_line (l r:List UInt8):(l++[13,10]++r).drop (l.length+([13,10]:List UInt8).length) = r:=by
 have:l.length+([13,10]:List UInt8).length = (l++[13,10]).length:=by simp
 rw [this,List.drop_left]
theorem split_lines (Ls:List (List UInt8)) (cur:List UInt8) (h:∀ l ∈ Ls,∀ c ∈ l,c ≠ 13) (hc:∀ c ∈ cur,c ≠ 13) :
  Lib.count (joinLines Ls cur) [13,10] = Ls.length∧Lib.splitK [13,10] 0 Ls.length (joinLines Ls cur) = Ls++[cur]:=by
 induction Ls with
 | nil =>
  refine ⟨?_,rfl⟩
  exact Lib.count_miss (index_missL cur hc)
 | cons l Ls ih =>
  have hi:=index_hitL l (joinLines Ls cur) (h l (by simp))
  obtain ⟨i1,i2⟩:=ih (fun l hl=>h l (by simp [hl]))
  rw [joinLines_cons]
  constructor
  ·rw [Lib.count_hit (by simp) hi]
   rw [drop_line,i1]
   simp; omega
  ·rw [List.length_cons,Lib.splitK,hi]
   rw [if_neg (by simp)]
   rw [Int.toNat_natCast,drop_line,i2]
   simp
def okL (p:List UInt8):Prop:=p.length ≤ 76∧Lib.hasSuffix p [32] = false∧Lib.hasSuffix p [9] = false∧∀ c ∈ p,okByte c
theorem suffix_one (l:List UInt8) (c d:UInt8) (h:c ≠ d):Lib.hasSuffix (l++[c]) [d] = false:=by
 unfold Lib.hasSuffix
 rw [Bool.eq_false_iff]
 intro hs
 rw [List.isSuffixOf_iff_suffix] at hs
 obtain ⟨t,ht⟩:=hs
 have:=List.append_inj_right' ht rfl
 simp at this
 exact h this.symm
end Go.Proofs.YtknhacbfddggpaaGreatDoor.Tx
namespace Go.Proofs.YtknhacbfddggpaaGreatDoor.Tx
open Go.RowKit Go.Proofs.Sx
abbrev Item:=Option (UInt8 ⊕ UInt8)
abbrev Item.soft:Item:=none
abbrev Item.lit (c:UInt8):Item:=some (.inl c)
abbrev Item.hex (c:UInt8):Item:=some (.inr c)
def Item.bytes:Item → List UInt8
 | none=>[61,13,10]
 | some (.inl c)=>[c]
 | some (.inr c)=>[61,hexd (c.toNat / 16),hexd (c.toNat % 16)]
def Item.val:Item → List UInt8
 | none=>[]
 | some (.inl c)=>[c]
 | some (.inr c)=>[c]
def Item.ok:Item → Bool
 | some (.inl c)=>isLetter c || isBlank c
 | _=>true
def Item.isSoft:Item → Bool
 | none=>true
 | _=>false
def Item.ends:Item → Bool
 | some (.inl c)=>isLetter c
 | _=>true
def flat (I:List Item):List UInt8:=I.flatMap Item.bytes
def vals (I:List Item):List UInt8:=I.flatMap Item.val
theorem flat_append (a b:List Item):flat (a++b) = flat a++flat b:=by simp [flat]
theorem vals_append (a b:List Item):vals (a++b) = vals a++vals b:=by simp [vals]
theorem hexv_hexd (n:Nat) (h:n < 16):hexv (hexd n) = (n:Int):=by
 have:∀ n:Fin 16,hexv (hexd n.val) = (n.val:Int):=by decide +kernel
 exact this ⟨n,h⟩
theorem hexd_ok (n:Nat) (h:n < 16):isLetter (hexd n) = true∧hexd n ≠ 61∧hexd n ≠ 13∧32 ≤ (hexd n).toNat∧(hexd n).toNat ≤ 126∧hexd n ≠ 32∧hexd n ≠ 9:=by
 have:∀ n:Fin 16,isLetter (hexd n.val) = true∧hexd n.val ≠ 61∧hexd n.val ≠ 13∧32 ≤ (hexd n.val).toNat∧(hexd n.val).toNat ≤ 126∧hexd n.val ≠ 32∧hexd n.val ≠ 9:=by decide +kernel
 exact this ⟨n,h⟩
theorem letter_ok (c:UInt8) (h:isLetter c = true):c ≠ 61∧c ≠ 13∧32 ≤ c.toNat∧c.toNat ≤ 126∧c ≠ 32∧c ≠ 9:=by
 unfold isLetter at h
 simp only [Bool.and_eq_true,decide_eq_true_eq,bne_iff_ne] at h
 obtain ⟨⟨h1,h2⟩,h3⟩:=h
 have a1:=UInt8.le_iff_toNat_le.1 h1
 have a2:=UInt8.le_iff_toNat_le.1 h2
 simp at a1 a2
 refine ⟨h3,?_,by omega,by omega,?_,?_⟩ <;> (intro e; subst e; simp at a1)
theorem blank_ok (c:UInt8) (h:isBlank c = true):c ≠ 61∧c ≠ 13∧okByte c:=by
 unfold isBlank at h
 simp only [Bool.or_eq_true,beq_iff_eq] at h
 rcases h with rfl | rfl
 ·exact ⟨by decide,by decide,.inl (by decide)⟩
 ·exact ⟨by decide,by decide,.inr rfl⟩
def uf (q:Option (List UInt8 × Nat × Nat)) (c:UInt8):Option (List UInt8 × Nat × Nat):=q.bind fun q=>uqStep q c
theorem uf_some (q:List UInt8 × Nat × Nat) (c:UInt8):uf (some q) c = uqStep q c:=rfl
theorem uqAll_uf (l:List UInt8):uqAll l = l.foldl uf (some ([],0,0)):=rfl
theorem uf_item (x:Item) (hx:x.ok = true) (hs:x.isSoft = false) (o:List UInt8) (V:Nat):∃ V',x.bytes.foldl uf (some (o,V,0)) = some (o++x.val,V',0):=by
 rcases x with _ | (c | c)
 ·cases hs
 ·skip
  refine ⟨V,?_⟩
  have hx':(isLetter c || isBlank c) = true:=hx
  have h61:c ≠ 61:=by
   simp only [Bool.or_eq_true] at hx'
   rcases hx' with h | h
   ·exact (letter_ok c h).1
   ·exact (blank_ok c h).1
  show uf (some (o,V,0)) c = _
  rw [uf_some,uqStep_zero,if_neg h61,hx']
  rfl
 ·skip
  have hc:=c.toNat_lt
  refine ⟨c.toNat / 16 * 16+c.toNat % 16,?_⟩
  show uf (uf (uf (some (o,V,0)) 61) (hexd (c.toNat / 16))) (hexd (c.toNat % 16)) = _
  rw [uf_some,uqStep_zero,if_pos rfl,uf_some,uqStep_two,hexv_hexd _ (by omega),if_neg (by omega),uf_some,uqStep_one,hexv_hexd _ (by omega),if_neg (by omega)]
  simp only [Int.toNat_natCast]
  rw [ofNat_eq _ c (by omega)]
  rfl
theorem uf_items (J:List Item) (hJ:∀ x ∈ J,x.ok = true∧x.isSoft = false) (o:List UInt8) (V:Nat):∃ V',(flat J).foldl uf (some (o,V,0)) = some (o++vals J,V',0):=by
 induction J generalizing o V with
 | nil=>exact ⟨V,by simp [flat,vals]⟩
 | cons x J ih =>
  obtain ⟨V1,h1⟩:=uf_item x (hJ x (by simp)).1 (hJ x (by simp)).2 o V
  obtain ⟨V2,h2⟩:=ih (fun y hy=>hJ y (by simp [hy])) (o++x.val) V1
  refine ⟨V2,?_⟩
  show (x.bytes++flat J).foldl uf _ = _
  rw [List.foldl_append,h1,h2,List.append_assoc]
  rfl
theorem unquoted_items (J:List Item) (hJ:∀ x ∈ J,x.ok = true∧x.isSoft = false):unquotedS (flat J) = some (vals J):=by
 obtain ⟨V,h⟩:=uf_items J hJ [] 0
 unfold unquotedS
 rw [uqAll_uf,h]
 simp
theorem item_no13 (x:Item) (hx:x.ok = true) (hs:x.isSoft = false):∀ c ∈ x.bytes,c ≠ 13:=by
 intro c hc
 rcases x with _ | (d | d)
 ·cases hs
 ·skip
  have hx':(isLetter d || isBlank d) = true:=hx
  simp only [Item.bytes,List.mem_cons,List.not_mem_nil,or_false] at hc
  subst hc
  simp only [Bool.or_eq_true] at hx'
  rcases hx' with h | h
  ·exact (letter_ok c h).2.1
  ·exact (blank_ok c h).2.1
 ·skip
  have hd:=d.toNat_lt
  simp only [Item.bytes,List.mem_cons,List.not_mem_nil,or_false] at hc
  rcases hc with rfl | rfl | rfl
  ·decide
  ·exact (hexd_ok _ (by omega)).2.2.1
  ·exact (hexd_ok _ (by omega)).2.2.1
theorem flat_no13 (J:List Item) (hJ:∀ x ∈ J,x.ok = true∧x.isSoft = false):∀ c ∈ flat J,c ≠ 13:=by
 intro c hc
 simp only [flat,List.mem_flatMap] at hc
 obtain ⟨x,hx,hc⟩:=hc
 exact item_no13 x (hJ x hx).1 (hJ x hx).2 c hc
theorem cut_hit (x r:List UInt8) (h:∀ c ∈ x,c ≠ 13):Lib.cut (x++[13,10]++r) [13,10] = (x,r,true):=by
 unfold Lib.cut
 rw [index_hitL x r h,if_pos (by omega),Int.toNat_natCast,drop_line]
 simp
theorem cut_miss (x:List UInt8) (h:∀ c ∈ x,c ≠ 13):Lib.cut x [13,10] = (x,[],false):=by
 unfold Lib.cut
 rw [index_missL x h]
 rfl
theorem trim_last (l:List UInt8) (c:UInt8) (h1:c ≠ 32) (h2:c ≠ 9):Lib.trimRightS (l++[c]) [32,9] = l++[c]:=by
 unfold Lib.trimRightS
 rw [List.reverse_append]
 simp only [List.reverse_cons,List.reverse_nil,List.nil_append,List.singleton_append]
 rw [List.dropWhile_cons_of_neg (by simp [h1,h2])]
 simp
theorem suffix_yes (l:List UInt8) (c:UInt8):Lib.hasSuffix (l++[c]) [c] = true:=by
 unfold Lib.hasSuffix
 rw [List.isSuffixOf_iff_suffix]
 exact List.suffix_append _ _
theorem lineOf_on (l:List UInt8):lineOf (l++[61]) = l∧goesOn (l++[61]) = true:=by
 unfold lineOf goesOn
 rw [trim_last l 61 (by decide) (by decide)]
 refine ⟨?_,suffix_yes l 61⟩
 unfold Lib.trimSuffix
 rw [suffix_yes,if_pos rfl]
 simp
theorem item_last (x:Item) (hx:x.ends = true) (hs:x.isSoft = false):∃ l c,x.bytes = l++[c]∧c ≠ 61∧c ≠ 32∧c ≠ 9:=by
 rcases x with _ | (c | c)
 ·cases hs
 ·skip
  have:=letter_ok c hx
  exact ⟨[],c,rfl,this.1,this.2.2.2.2.1,this.2.2.2.2.2⟩
 ·skip
  have hc:=c.toNat_lt
  have:=hexd_ok (c.toNat % 16) (by omega)
  exact ⟨[61,hexd (c.toNat / 16)],_,rfl,this.2.1,this.2.2.2.2.2.1,this.2.2.2.2.2.2⟩
theorem lineOf_last (J:List Item) (hJ:∀ x ∈ J,x.ok = true∧x.isSoft = false) (he:∀ x,J.getLast? = some x → x.ends = true):lineOf (flat J) = flat J:=by
 rcases List.eq_nil_or_concat J with rfl | ⟨K,x,rfl⟩
 ·rfl
 ·rw [List.concat_eq_append] at hJ he ⊢
  obtain ⟨l,c,h1,h2,h3,h4⟩:=item_last x (he x (by simp)) (hJ x (by simp)).2
  have e:flat (K++[x]) = (flat K++l)++[c]:=by
   rw [flat_append]
   show flat K++(x.bytes++[]) = _
   rw [h1]
   simp
  rw [e]
  unfold lineOf
  rw [trim_last _ c h3 h4]
  unfold Lib.trimSuffix
  rw [suffix_one _ c 61 h2]
  rfl
theorem uqLoop_items (I J:List Item) (f:Nat) (out:List UInt8) (hI:∀ x ∈ I,x.ok = true) (hJ:∀ x ∈ J,x.ok = true∧x.isSoft = false)
  (he:∀ x,(J++I).getLast? = some x → x.ends = true) (hf:(flat J++flat I).length < f):uqLoop f (flat J++flat I) out = some (out++vals J++vals I):=by
 induction I generalizing J f out with
 | nil =>
  obtain ⟨f',rfl⟩:∃ f',f = f'+1:=⟨f - 1,by omega⟩
  have hc:=cut_miss (flat J) (flat_no13 J hJ)
  have e:flat J++flat [] = flat J:=by simp [flat]
  rw [e,uqLoop_end f' (flat J) out (flat J) [] (vals J) hc (by rw [lineOf_last J hJ (by simpa using he)]; exact unquoted_items J hJ)]
  simp [vals]
 | cons x I ih =>
  cases hs:x.isSoft with
  | false =>
   have:=ih (J++[x]) f out (fun y hy=>hI y (by simp [hy])) (by
    intro y hy
    rw [List.mem_append] at hy
    rcases hy with hy | hy
    ·exact hJ y hy
    ·simp at hy; subst hy; exact ⟨hI y (by simp),hs⟩) (by simpa using he) (by
    rw [flat_append,List.append_assoc,← flat_append [x] I]
    exact hf)
   rw [flat_append,List.append_assoc,vals_append] at this
   rw [show flat (x :: I) = flat [x]++flat I from flat_append [x] I,show vals (x :: I) = vals [x]++vals I from vals_append [x] I,this]
   simp
  | true =>
   rcases x with _ | (c | c)
   rotate_left
   ·cases hs
   ·cases hs
   ·skip
    obtain ⟨f',rfl⟩:∃ f',f = f'+1:=⟨f - 1,by omega⟩
    have e:flat J++flat (Item.soft :: I) = (flat J++[61])++[13,10]++flat I:=by
     rw [show flat (Item.soft :: I) = [61,13,10]++flat I from flat_append [Item.soft] I]
     simp
    have hn:∀ c ∈ flat J++[61],c ≠ 13:=by
     intro c hc
     rw [List.mem_append] at hc
     rcases hc with hc | hc
     ·exact flat_no13 J hJ c hc
     ·simp at hc; subst hc; decide
    have hc:=cut_hit (flat J++[61]) (flat I) hn
    rw [e,uqLoop_on f' _ out _ _ (vals J) hc (by rw [(lineOf_on _).1]; exact unquoted_items J hJ),(lineOf_on _).2]
    have h1:=ih [] f' (out++vals J++if true = true then [] else [13,10]) (fun y hy=>hI y (by simp [hy])) (by simp) (by
     intro y hy
     cases I with
     | nil=>cases hy
     | cons z I=>
      apply he y
      rw [List.getLast?_append]
      simp only [List.nil_append] at hy
      rw [List.getLast?_cons_cons,hy]
      rfl) (by
     rw [e] at hf
     simp [flat] at hf ⊢
     omega)
    rw [show flat []++flat I = flat I from by simp [flat]] at h1
    rw [h1]
    simp [vals,Item.val]
theorem unquote_items (I:List Item) (hI:∀ x ∈ I,x.ok = true) (he:∀ x,I.getLast? = some x → x.ends = true):unquoteS (flat I) = some (vals I):=by
 have:=uqLoop_items I [] ((flat I).length+1) [] hI (by simp) (by simpa using he) (by simp [flat])
 unfold unquoteS
 rw [show flat []++flat I = flat I from by simp [flat]] at this
 rw [this]
 simp [vals]
end Go.Proofs.YtknhacbfddggpaaGreatDoor.Tx
namespace Go.Proofs.YtknhacbfddggpaaGreatDoor.Tx
open Go.RowKit Go.Proofs.Sx
def itemOf (c:UInt8) (last:Bool):Item:=if isLetter c || (isBlank c && !last) then Item.lit c else Item.hex c
theorem itemOf_bytes (c:UInt8) (last:Bool):(itemOf c last).bytes = quotedL c last:=by
 unfold itemOf quotedL; split <;> rfl
theorem itemOf_val (c:UInt8) (last:Bool):(itemOf c last).val = [c]:=by unfold itemOf; split <;> rfl
theorem itemOf_ok (c:UInt8) (last:Bool):(itemOf c last).ok = true∧(itemOf c last).isSoft = false∧(itemOf c true).ends = true:=by
 refine ⟨?_,?_,?_⟩
 ·unfold itemOf
  split
  ·rename_i h
   show (isLetter c || isBlank c) = true
   cases h1:isLetter c <;> simp_all
  ·rfl
 ·unfold itemOf; split <;> rfl
 ·unfold itemOf
  split
  ·rename_i h
   show isLetter c = true
   simpa using h
  ·rfl
theorem item_okByte (x:Item) (hx:x.ok = true) (hs:x.isSoft = false):∀ c ∈ x.bytes,okByte c:=by
 intro c hc
 rcases x with _ | (d | d)
 ·cases hs
 ·skip
  have hx':(isLetter d || isBlank d) = true:=hx
  simp only [Item.bytes,List.mem_cons,List.not_mem_nil,or_false] at hc
  subst hc
  simp only [Bool.or_eq_true] at hx'
  rcases hx' with h | h
  ·have:=letter_ok c h
   exact .inl ⟨this.2.2.1,this.2.2.2.1⟩
  ·exact (blank_ok c h).2.2
 ·skip
  have hd:=d.toNat_lt
  simp only [Item.bytes,List.mem_cons,List.not_mem_nil,or_false] at hc
  rcases hc with rfl | rfl | rfl
  ·exact .inl (by decide)
  ·have:=hexd_ok (d.toNat / 16) (by omega)
   exact .inl ⟨this.2.2.2.1,this.2.2.2.2.1⟩
  ·have:=hexd_ok (d.toNat % 16) (by omega)
   exact .inl ⟨this.2.2.2.1,this.2.2.2.2.1⟩
structure Shape (b:List UInt8) (k:Nat) (o:List UInt8) (G:Nat):Prop where
 items:∃ I,flat I = o∧vals I = b.take k∧(∀ x ∈ I,x.ok = true)∧(k = b.length → ∀ x,I.getLast? = some x → x.ends = true)
 lines:∃ Ls cur,o = joinLines Ls cur∧(∀ l ∈ Ls,okL l∧∀ c ∈ l,c ≠ 13)∧cur.length = G∧(∀ c ∈ cur,okByte c∧c ≠ 13)∧(G ≤ 76∧(k < b.length → G ≤ 75))∧(k = b.length → okL cur)
theorem okL_61 (cur:List UInt8) (h:cur.length ≤ 75) (hb:∀ c ∈ cur,okByte c):okL (cur++[61]):=by
 refine ⟨by simp; omega,suffix_one _ 61 32 (by decide),suffix_one _ 61 9 (by decide),fun c hc=>?_⟩
 rw [List.mem_append] at hc
 rcases hc with hc | hc
 ·exact hb c hc
 ·simp at hc; subst hc; exact .inl (by decide)
theorem okL_last (cur:List UInt8) (x:Item) (hx:x.ends = true) (hs:x.isSoft = false) (hl:(cur++x.bytes).length ≤ 76) (hb:∀ c ∈ cur++x.bytes,okByte c):okL (cur++x.bytes):=by
 obtain ⟨l,c,h1,_,h3,h4⟩:=item_last x hx hs
 have e:cur++x.bytes = (cur++l)++[c]:=by rw [h1]; simp
 refine ⟨hl,?_,?_,hb⟩
 ·rw [e]; exact suffix_one _ c 32 h3
 ·rw [e]; exact suffix_one _ c 9 h4
theorem quoteTo_shape (b:List UInt8) (k:Nat) (hk:k ≤ b.length):Shape b k (quoteTo b k).1 (quoteTo b k).2:=by
 induction k with
 | zero =>
  refine ⟨⟨[],rfl,by simp [vals],by simp,by simp⟩,⟨[],[],rfl,by simp,rfl,by simp,⟨by simp [quoteTo],by simp [quoteTo]⟩,fun _=>⟨by simp,rfl,rfl,by simp⟩⟩⟩
 | succ k ih =>
  obtain ⟨⟨I,i1,i2,i3,_⟩,⟨Ls,cur,l1,l2,l3,l4,l5,_⟩⟩:=ih (by omega)
  have hk':k < b.length:=by omega
  have hg:b.getD k 0 = b[k]:=by rw [List.getD_eq_getElem?_getD,List.getElem?_eq_getElem hk']; rfl
  have hG:=l5.2 hk'
  rw [quoteTo,hg]
  obtain ⟨c,hc⟩:∃ c,c = b[k]:=⟨_,rfl⟩
  have ht:b.take (k+1) = b.take k++[c]:=by rw [hc]; exact take_snocL b k hk'
  obtain ⟨last,hlast⟩:∃ last,last = decide (k+1 = b.length):=⟨_,rfl⟩
  rw [← hc,← hlast]
  have hx:=itemOf_ok c last
  have hbytes:=itemOf_bytes c last
  have hval:=itemOf_val c last
  have h3:(quotedL c last).length ≤ 3:=quotedL_length c last
  have hob:∀ d ∈ quotedL c last,okByte d∧d ≠ 13:=by
   rw [← hbytes]
   exact fun d hd=>⟨item_okByte _ hx.1 hx.2.1 d hd,item_no13 _ hx.1 hx.2.1 d hd⟩
  have hend:k+1 = b.length → (itemOf c last).ends = true:=by
   intro h
   rw [hlast,decide_eq_true h]
   exact hx.2.2
  by_cases hov:(if k+1 = b.length then 76 else 75) < (quoteTo b k).2+(quotedL c last).length
  ·rw [if_pos hov]
   refine ⟨⟨I++[Item.soft,itemOf c last],?_,?_,?_,?_⟩,⟨Ls++[cur++[61]],quotedL c last,?_,?_,rfl,hob,⟨by omega,by omega⟩,?_⟩⟩
   ·rw [flat_append,i1]
    show _++([61,13,10]++((itemOf c last).bytes++[])) = _
    rw [hbytes]; simp
   ·rw [vals_append,i2,ht]
    show _++([]++((itemOf c last).val++[])) = _
    rw [hval]; simp
   ·intro x hx'
    simp only [List.mem_append,List.mem_cons,List.not_mem_nil,or_false] at hx'
    rcases hx' with hx' | rfl | rfl
    ·exact i3 x hx'
    ·rfl
    ·exact hx.1
   ·intro h x hx'
    rw [List.getLast?_append] at hx'
    simp at hx'
    subst hx'
    exact hend h
   ·have:=joinLines_snoc Ls cur [61] (quotedL c last)
    rw [← this,l1]
    simp
   ·intro l hl
    simp only [List.mem_append,List.mem_cons,List.not_mem_nil,or_false] at hl
    rcases hl with hl | rfl
    ·exact l2 l hl
    ·refine ⟨okL_61 cur (by omega) (fun c hc=>(l4 c hc).1),fun d hd=>?_⟩
     rw [List.mem_append] at hd
     rcases hd with hd | hd
     ·exact (l4 d hd).2
     ·simp at hd; subst hd; decide
   ·intro h
    have:=okL_last [] (itemOf c last) (hend h) hx.2.1 (by rw [hbytes]; simp; omega) (by rw [hbytes]; simpa using fun d hd=>(hob d hd).1)
    rw [hbytes] at this
    simpa using this
  ·rw [if_neg hov]
   have hcb:∀ d ∈ cur++quotedL c last,okByte d∧d ≠ 13:=by
    intro d hd
    rw [List.mem_append] at hd
    rcases hd with hd | hd
    ·exact l4 d hd
    ·exact hob d hd
   refine ⟨⟨I++[itemOf c last],?_,?_,?_,?_⟩,⟨Ls,cur++quotedL c last,?_,l2,by rw [List.length_append,l3],hcb,?_,?_⟩⟩
   ·rw [flat_append,i1]
    show _++((itemOf c last).bytes++[]) = _
    rw [hbytes]; simp
   ·rw [vals_append,i2,ht]
    show _++((itemOf c last).val++[]) = _
    rw [hval]; simp
   ·intro x hx'
    simp only [List.mem_append,List.mem_cons,List.not_mem_nil,or_false] at hx'
    rcases hx' with hx' | rfl
    ·exact i3 x hx'
    ·exact hx.1
   ·intro h x hx'
    rw [List.getLast?_append] at hx'
    simp at hx'
    subst hx'
    exact hend h
   ·show (quoteTo b k).1++quotedL c last = _
    rw [l1,joinLines_append]
   ·show _+_ ≤ 76∧(_ → _+_ ≤ 75)
    constructor
    ·split at hov <;> omega
    ·intro h
     rw [if_neg (by omega)] at hov
     omega
   ·intro h
    rw [if_pos h] at hov
    have:=okL_last cur (itemOf c last) (hend h) hx.2.1 (by rw [hbytes,List.length_append,l3]; omega) (by rw [hbytes]; exact fun d hd=>(hcb d hd).1)
    rw [hbytes] at this
    exact this
theorem quote_items (b:List UInt8):∃ I,flat I = quoteS b∧vals I = b∧(∀ x ∈ I,x.ok = true)∧(∀ x,I.getLast? = some x → x.ends = true):=by
 obtain ⟨⟨I,h1,h2,h3,h4⟩,_⟩:=quoteTo_shape b b.length (Nat.le_refl _)
 exact ⟨I,h1,by rw [h2,List.take_length],h3,h4 rfl⟩
theorem unquote_quote (b:List UInt8):unquoteS (quoteS b) = some b:=by
 obtain ⟨I,h1,h2,h3,h4⟩:=quote_items b
 rw [← h1,unquote_items I h3 h4,h2]
def s1 (t:List UInt8) (n k:Nat):Nat:=if n ≤ k∧t.getD (k - n) 0 = 61 then k - n else k
def s3 (t:List UInt8) (d:UInt8) (k:Nat):Nat:=if 0 < k∧t.getD (k - 1) 0 = d then k - 1 else k
end Go.Proofs.YtknhacbfddggpaaGreatDoor.Tx
