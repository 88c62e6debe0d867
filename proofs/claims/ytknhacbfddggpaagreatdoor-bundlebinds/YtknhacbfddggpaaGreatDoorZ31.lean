import Derived.Test.YtknhacbfddggpaaGreatDoorZ30
import Derived.Test.YtknhacbfddggpaaGreatDoorZ7
namespace Go.Proofs.YtknhacbfddggpaaGreatDoor
open Go.RowKit
theorem quoteS_len (b:List UInt8):(Tx.quoteS b).length ≤ 6 * b.length:=(Tx.quoteTo_length b b.length).1
theorem packS_len (b:List UInt8):(Tx.packS b).length ≤ 4 * b.length+8:=by
 have h:=Tx.inLinesTo_length (Tx.packTo b ((b.length+2) / 3)) (Tx.packTo b ((b.length+2) / 3)).length
 have h2:∀ k,(Tx.packTo b k).length = 4 * k:=by
  intro k
  induction k with
  | zero=>rfl
  | succ k ih=>simp [Tx.packTo,ih,Tx.fourL_length]; omega
 rw [h2] at h
 show (Tx.inLinesTo _ _).length ≤ _
 rw [h2]
 omega
theorem encU_len (b:List UInt8) (h:b.length ≤ 100000):(encU b).1.length ≤ 16∧(encU b).2.length ≤ 600008:=by
 have h1:=quoteS_len b
 have h2:=packS_len b
 unfold encU
 split
 ·exact ⟨(by decide:bit7.length ≤ 16),by simp only; omega⟩
 ·split
  ·exact ⟨(by decide:b64N.length ≤ 16),by simp only; omega⟩
  ·exact ⟨(by decide:qpN.length ≤ 16),by simp only; omega⟩
theorem fieldsB_hsz (L:List Fl):(fieldsB L).length ≤ 3 * hsz (L.map fl2):=by
 induction L with
 | nil=>exact Nat.le_refl _
 | cons f L ih =>
  have e:fieldsB (f :: L) = fieldB f++fieldsB L:=rfl
  have h:=fieldS_len f.1.data.toList f.2.data.toList
  rw [e,List.length_append,List.map_cons,hsz_cons]
  have h2:(fieldB f).length ≤ 3 * ((fl2 f).1.length+(fl2 f).2.length+2):=by
   unfold fieldB fl2
   simp only
   omega
  omega
theorem headW_len (L:List PB):(headW L).length ≤ 3 * hsz L+2:=by
 unfold headW
 rw [List.length_append]
 have h:=fieldsB_hsz (L.map toF)
 have e:(L.map toF).map fl2 = L:=by
  rw [List.map_map]
  conv=>rhs; rw [← List.map_id L]
  exact List.map_congr_left fun p _=>fl2_toF p
 rw [e] at h
 simp; omega
theorem setCT_hsz (bd:List UInt8) (L:List PB):hsz (setCT bd L) ≤ 3 * hsz L+3 * bd.length:=by
 induction L with
 | nil=>simp [setCT,hsz]
 | cons g L ih =>
  rw [setCT_cons,hsz_cons]
  split
  ·omega
  ·split
   ·have h1:=xnewVal_len bd g.2
    have h2:hsz (stripH L) ≤ hsz L:=hsz_filter _ _
    rw [hsz_cons]
    simp only
    omega
   ·rw [hsz_cons]; omega
theorem freeU_len (xs:List (List UInt8)):(freeU xs).length ≤ 70:=by
 unfold freeU
 split
 ·show (Lib.decDigits 0).length+1 ≤ 70
  rw [Lib.decDigits_length]
  have:=nDigits_le 0 0 (by decide)
  omega
 ·exact (bnd_ok xs (by omega)).2.1
def sumX (xs:List (List UInt8)):Nat:=(xs.map fun x=>x.length+100).sum
theorem sumX_cons (x:List UInt8) (xs:List (List UInt8)):sumX (x :: xs) = x.length+100+sumX xs:=by simp [sumX]
theorem pieces_sum (b:List UInt8) (hb:b.length ≤ 70) (xs:List (List UInt8)):(piecesW b xs).length ≤ sumX xs+80:=by
 unfold piecesW
 have h:(xs.flatMap (pieceW b)).length ≤ sumX xs:=by
  induction xs with
  | nil=>simp [sumX]
  | cons x xs ih =>
   rw [List.flatMap_cons,List.length_append,sumX_cons]
   have:(pieceW b x).length ≤ x.length+100:=by simp [pieceW,lead]; omega
   omega
 rw [List.length_append,List.length_append,show (lead b).length = b.length+2 by simp [lead],show ([45,45,13,10]:List UInt8).length = 4 from rfl]
 omega
theorem flat_sum (xs:List (List UInt8)):xs.flatten.length ≤ sumX xs:=by
 induction xs with
 | nil=>simp [sumX]
 | cons x xs ih=>rw [List.flatten_cons,List.length_append,sumX_cons]; omega
theorem writeG_len (bn:List (List UInt8) → List UInt8) (hbn:∀ xs:List (List UInt8),xs.flatten.length ≤ 40000000 → (bn xs).length ≤ 70):∀ (d D n:Nat) (p:PT) (q:List UInt8 × Nat),SmT D p → writeG bn d n p = .ok q → n+1 ≤ q.2∧q.2 ≤ 40∧q.1.length+100 ≤ (q.2 - n) * 1000000:=by
 intro d
 induction d with
 | zero=>intro D n p q _ h; cases h
 | succ d ih =>
  intro D n p q hS h
  match D,p,hS with
  | D+1,.mk L b many ps,hS =>
   obtain ⟨⟨s0,s1,s2⟩,s3,s4,s5⟩:=hS
   unfold writeG at h
   split at h
   ·cases h
   ·split at h
    ·cases h
    ·have hall:∀ (ps:List PT),(∀ p ∈ ps,SmT D p) → ∀ (m:Nat) (r:List (List UInt8) × Nat),allG (writeG bn d) ps m = .ok r → m ≤ 40 → m ≤ r.2∧r.2 ≤ 40∧sumX r.1 ≤ (r.2 - m) * 1000000:=by
      intro ps
      induction ps with
      | nil=>intro _ m r h hm; cases h; exact ⟨Nat.le_refl _,hm,by simp [sumX]⟩
      | cons x ps ihx =>
       intro hs m r h hm
       unfold allG at h
       cases h1:writeG bn d m x with
       | error c=>rw [h1] at h; cases h
       | ok q1 =>
        rw [h1] at h
        simp only at h
        cases h2:allG (writeG bn d) ps q1.2 with
        | error c=>rw [h2] at h; cases h
        | ok q2 =>
         rw [h2] at h
         cases h
         obtain ⟨a1,a2,a3⟩:=ih D m x q1 (hs x (by simp)) h1
         obtain ⟨b1,b2,b3⟩:=ihx (fun p hp=>hs p (by simp [hp])) q1.2 q2 h2 a2
         refine ⟨by simp only; omega,b2,?_⟩
         simp only
         rw [sumX_cons]
         omega
     split at h
     ·cases h4:allG (writeG bn d) ps (n+1) with
      | error c=>rw [h4] at h; cases h
      | ok r =>
       rw [h4] at h
       cases h
       obtain ⟨a1,a2,a3⟩:=hall ps s5 (n+1) r h4 (by omega)
       have hf:=hbn r.1 (by have:=flat_sum r.1; omega)
       have hp:=pieces_sum (bn r.1) hf r.1
       have c1:=setCT_hsz (bn r.1) L
       have hh:=headW_len (setCT (bn r.1) L)
       refine ⟨a1,a2,?_⟩
       simp only
       rw [List.length_append]
       omega
     ·cases h
      obtain ⟨e1,e2⟩:=encU_len b s3
      have hh:=headW_len (stripH L++[(cteB,(encU b).1)])
      have hl:hsz (stripH L) ≤ hsz L:=hsz_filter _ _
      have hl2:hsz [(cteB,(encU b).1)] ≤ 25+16+2:=by
       rw [hsz_cons]
       have:cteB.length = 25:=rfl
       simp only [hsz,List.map_nil,List.sum_nil]
       omega
      rw [hsz_app] at hh
      refine ⟨Nat.le_refl _,by simp only; omega,?_⟩
      simp only
      rw [List.length_append]
      omega
theorem writeC_len (d D n:Nat) (p:PT) (q:List UInt8 × Nat) (hS:SmT D p) (h:writeC d n p = .ok q):n+1 ≤ q.2∧q.2 ≤ 40∧q.1.length+100 ≤ (q.2 - n) * 1000000:=writeG_len freeU (fun xs _=>freeU_len xs) d D n p q hS h
end Go.Proofs.YtknhacbfddggpaaGreatDoor
namespace Go.Proofs.YtknhacbfddggpaaGreatDoor
open Go.RowKit
def SameW (a b:List UInt8):Prop:=a = b ∨ (20000 < a.length∧20000 < b.length)
def SameO:Except Nat (List UInt8 × Nat) → Except Nat (List UInt8 × Nat) → Prop
 | .error c,.error c'=>c = c'
 | .ok q,.ok q'=>q.2 = q'.2∧SameW q.1 q'.1
 | _,_=>False
def SameX:Except Nat (List (List UInt8) × Nat) → Except Nat (List (List UInt8) × Nat) → Prop
 | .error c,.error c'=>c = c'
 | .ok q,.ok q'=>q.2 = q'.2∧(q.1 = q'.1 ∨ (20000 < q.1.flatten.length∧20000 < q'.1.flatten.length))
 | _,_=>False
theorem same_list (f g:Nat → PT → Except Nat (List UInt8 × Nat)) (h:∀ n p,SameO (f n p) (g n p)):∀ (ps:List PT) (n:Nat),SameX (allG f ps n) (allG g ps n)
 | [],n=>⟨rfl,.inl rfl⟩
 | p :: ps,n=>by
  have h1:=h n p
  unfold allG
  cases hf:f n p with
  | error c =>
   rw [hf] at h1
   cases hg:g n p with
   | error c'=>rw [hg] at h1; exact h1
   | ok q=>rw [hg] at h1; exact h1.elim
  | ok q =>
   rw [hf] at h1
   cases hg:g n p with
   | error c'=>rw [hg] at h1; exact h1.elim
   | ok q' =>
    rw [hg] at h1
    obtain ⟨e1,e2⟩:=h1
    have h2:=same_list f g h ps q.2
    simp only
    rw [← e1]
    cases ha:allG f ps q.2 with
    | error c =>
     rw [ha] at h2
     cases hb:allG g ps q.2 with
     | error c'=>rw [hb] at h2; exact h2
     | ok r=>rw [hb] at h2; exact h2.elim
    | ok r =>
     rw [ha] at h2
     cases hb:allG g ps q.2 with
     | error c'=>rw [hb] at h2; exact h2.elim
     | ok r' =>
      rw [hb] at h2
      obtain ⟨e3,e4⟩:=h2
      refine ⟨e3,?_⟩
      simp only [List.flatten_cons,List.length_append]
      rcases e2 with e2 | ⟨a1,a2⟩
      ·rcases e4 with e4 | ⟨b1,b2⟩
       ·exact .inl (by rw [e2,e4])
       ·exact .inr ⟨by omega,by omega⟩
      ·exact .inr ⟨by omega,by omega⟩
theorem pieces_ge (b:List UInt8) (xs:List (List UInt8)):xs.flatten.length ≤ (piecesW b xs).length:=by
 unfold piecesW
 have h:xs.flatten.length ≤ (xs.flatMap (pieceW b)).length:=by
  induction xs with
  | nil=>simp
  | cons x xs ih =>
   rw [List.flatMap_cons,List.length_append,List.flatten_cons,List.length_append]
   have:x.length ≤ (pieceW b x).length:=by simp [pieceW]; omega
   omega
 rw [List.length_append,List.length_append]
 omega
theorem same_write:∀ (d n:Nat) (p:PT),SameO (writeG freeU d n p) (writeG bndS d n p)
 | 0,_,_=>rfl
 | d+1,n,.mk L b many ps=>by
  unfold writeG
  by_cases h1:40 ≤ n
  ·rw [if_pos h1,if_pos h1]; rfl
  ·rw [if_neg h1,if_neg h1]
   by_cases h2:mayU L b many ps.length = false
   ·rw [if_pos h2,if_pos h2]; rfl
   ·rw [if_neg h2,if_neg h2]
    cases many with
    | false=>exact ⟨rfl,.inl rfl⟩
    | true =>
     simp only [if_true]
     have h3:=same_list (writeG freeU d) (writeG bndS d) (same_write d) ps (n+1)
     cases ha:allG (writeG freeU d) ps (n+1) with
     | error c =>
      rw [ha] at h3
      cases hb:allG (writeG bndS d) ps (n+1) with
      | error c'=>rw [hb] at h3; exact h3
      | ok r=>rw [hb] at h3; exact h3.elim
     | ok r =>
      rw [ha] at h3
      cases hb:allG (writeG bndS d) ps (n+1) with
      | error c'=>rw [hb] at h3; exact h3.elim
      | ok r' =>
       rw [hb] at h3
       obtain ⟨e1,e2⟩:=h3
       refine ⟨e1,?_⟩
       simp only
       have g1:=pieces_ge (freeU r.1) r.1
       have g2:=pieces_ge (bndS r'.1) r'.1
       unfold SameW
       rw [List.length_append,List.length_append]
       rcases e2 with e2 | ⟨a1,a2⟩
       ·by_cases hl:20000 < r.1.flatten.length
        ·rw [← e2] at g2 ⊢
         exact .inr ⟨by omega,by omega⟩
        ·left
         rw [← e2,freeU,if_neg hl]
       ·exact .inr ⟨by omega,by omega⟩
def topW (O:Except Nat (List UInt8 × Nat)):Except Nat (List UInt8):=
 match O with
 | .error c=>.error c
 | .ok q=>if 20000 < q.1.length then .error 4 else .ok q.1
theorem writeB_T:∀ (d n:Nat) (p:PT),writeG bndS d n p = writeT Y0 d n p
 | 0,_,_=>rfl
 | d+1,n,.mk L b many ps=>by
  have hall:∀ (ps:List PT) (n:Nat),allG (writeG bndS d) ps n = allG (writeT Y0 d) ps n:=by
   intro ps
   induction ps with
   | nil=>intro n; rfl
   | cons p ps ih =>
    intro n
    unfold allG
    rw [writeB_T d n p]
    cases writeT Y0 d n p with
    | error c=>rfl
    | ok q=>simp only; rw [ih]
  unfold writeG writeT
  by_cases h1:40 ≤ n
  ·rw [if_pos h1,if_pos h1]
  ·rw [if_neg h1,if_neg h1]
   unfold mayU
   cases hm:maniesS L with
   | error c=>simp
   | ok o =>
    simp only
    by_cases hR:L.all rightB = true
    ·rw [hR,Bool.true_and]
     cases many with
     | true =>
      cases o with
      | none=>simp
      | some e =>
       cases b with
       | cons x b=>simp
       | nil =>
        have hc:(true = true∧(some e).isSome = true∧(true = true → ([]:List UInt8) = [])∧(true = false → ps = [])):=⟨rfl,rfl,fun _=>rfl,fun h=>by cases h⟩
        rw [if_pos hc,if_neg (by simp),hall]
        simp only [if_true]
        rfl
     | false =>
      cases o with
      | some e=>simp
      | none =>
       cases ps with
       | cons p ps=>simp
       | nil =>
        have hc:(true = true∧(none:Option (List UInt8)).isSome = false∧(false = true → b = [])∧(false = false → ([]:List PT) = [])):=⟨rfl,rfl,fun h=>by (cases h),fun _=>rfl⟩
        rw [if_pos hc,if_neg (by simp)]
        rfl
    ·have hR':L.all rightB = false:=by simpa using hR
     rw [hR']
     simp
end Go.Proofs.YtknhacbfddggpaaGreatDoor
namespace Go.Proofs.YtknhacbfddggpaaGreatDoor
open Go.RowKit
mutual
inductive Back:PT → PT → Prop
 | many (L:List PB) (b bd:List UInt8) (ps qs:List PT):okBd bd → BackL ps qs → Back (.mk L b true ps) (.mk (setCT bd L) b true qs)
 | one (L:List PB) (b how:List UInt8):how.length ≤ 16 → Back (.mk L b false []) (.mk (stripH L++[(cteB,how)]) b false [])
inductive BackL:List PT → List PT → Prop
 | nil:BackL [] []
 | cons (p q:PT) (ps qs:List PT):Back p q → BackL ps qs → BackL (p :: ps) (q :: qs)
end
theorem how_len (Y:Beneath) (b:List UInt8):(howW Y b).1.length ≤ 16:=by
 unfold howW
 split
 ·exact (by decide:bit7.length ≤ 16)
 ·split
  ·exact (by decide:b64N.length ≤ 16)
  ·exact (by decide:qpN.length ≤ 16)
theorem part_back2 (Y:Beneath):∀ (d n:Nat) (p:PT) (s:List UInt8) (n':Nat),writeT Y d n p = .ok (s,n') → s.length ≤ 20000 → ∃ r,readT Y d n s = .ok (r,n')∧Likes p r∧writeT Y d n r = .ok (s,n')∧Back p r
 | 0,n,p,s,n',h,_=>by cases h
 | d+1,n,.mk L b many ps,s,n',h,hs=>by
  obtain ⟨hn,hL,⟨rfl,rfl,b0,xs,hm,ha,rfl⟩ | ⟨rfl,rfl,hm,rfl,rfl⟩⟩:=write_forms Y d n n' L b many ps s h
  ·have hlen:xs.flatten.length ≤ 20000:=by
    have:=flatten_le xs (Y.bnd xs)
    rw [List.length_append] at hs
    omega
   have hall:∀ (ps:List PT) (xs:List (List UInt8)) (n n':Nat),allG (writeT Y d) ps n = .ok (xs,n') → xs.flatten.length ≤ 20000 → ∃ rs,allG (readT Y d) xs n = .ok (rs,n')∧LikesL ps rs∧allG (writeT Y d) rs n = .ok (xs,n')∧BackL ps rs:=by
    intro ps
    induction ps with
    | nil =>
     intro xs n n' h _
     have h:Except.ok ([],n) = Except.ok (xs,n'):=h
     simp only [Except.ok.injEq,Prod.mk.injEq] at h
     obtain ⟨rfl,rfl⟩:=h
     exact ⟨[],rfl,LikesL.nil,rfl,BackL.nil⟩
    | cons p ps ih =>
     intro xs n n' h hx
     obtain ⟨y,k,zs,h1,h2,rfl⟩:=allG_ok _ _ _ _ _ _ h
     rw [List.flatten_cons,List.length_append] at hx
     obtain ⟨r,r1,r2,r3,r4⟩:=part_back2 Y d n p y k h1 (by omega)
     obtain ⟨rs,i1,i2,i3,i4⟩:=ih zs k n' h2 (by omega)
     exact ⟨r :: rs,allG_mk _ _ _ _ _ _ _ _ r1 i1,LikesL.cons _ _ _ _ r2 i2,allG_mk _ _ _ _ _ _ _ _ r3 i3,BackL.cons _ _ _ _ r4 i4⟩
   obtain ⟨rs,i1,i2,i3,i4⟩:=hall ps xs (n+1) n' ha hlen
   have hbd:=Y.bok xs hlen
   have hread:=manies_read L _ hm
   have hR:=right_set (Y.bnd xs) hbd L hL hread
   have hM:=manies_set (Y.bnd xs) b0 L hbd hm
   refine ⟨.mk (setCT (Y.bnd xs) L) [] true rs,?_,?_,?_,Back.many _ _ _ _ _ hbd i4⟩
   ·unfold readT
    rw [if_neg (by omega),Y.back _ _ hR]
    simp only
    rw [hM]
    simp only
    rw [between_back (Y.bnd xs) (okBd_no13 hbd) xs (Y.bap xs)]
    simp only
    rw [i1]
   ·refine Likes.mk _ _ _ _ _ _ ?_ i2
    show blankCT L = blankCT (setCT (Y.bnd xs) L)
    rw [blank_set]
   ·rw [write_many Y d n n' _ _ rs xs hn hR hM i3,set_again _ _ _ hbd hread]
  ·have hR:=right_how Y L b hL
   refine ⟨.mk (stripH L++[(cteB,(howW Y b).1)]) b false [],?_,?_,?_,Back.one _ _ _ (how_len Y b)⟩
   ·unfold readT
    rw [if_neg (by omega),Y.back _ _ hR]
    simp only
    rw [manies_plain,hm]
    simp only
    rw [decode_how]
   ·refine Likes.mk _ _ _ _ _ _ ?_ LikesL.nil
    show stripH L = stripH (stripH L++[(cteB,(howW Y b).1)])
    rw [strip_plain]
   ·rw [write_one Y d n _ b hn hR (by rw [manies_plain]; exact hm),strip_plain]
def RgT:Nat → PT → Prop
 | 0,_=>False
 | d+1,.mk L _ _ ps=>L.all rightB = true∧∀ p ∈ ps,RgT d p
theorem readU_T:∀ (d n:Nat) (s:List UInt8),readU d n s = readT Y0 d n s
 | 0,_,_=>rfl
 | d+1,n,s=>by
  have hall:∀ (xs:List (List UInt8)) (n:Nat),allG (readU d) xs n = allG (readT Y0 d) xs n:=by
   intro xs
   induction xs with
   | nil=>intro n; rfl
   | cons x xs ih =>
    intro n
    unfold allG
    rw [readU_T d n x]
    cases readT Y0 d n x with
    | error c=>rfl
    | ok q=>simp only; rw [ih]
  have e:∀ L b,decodeU L b = decodeS Y0 L b:=fun _ _=>rfl
  have e2:Y0.hr s = headR s:=rfl
  unfold readU readT
  by_cases h1:40 ≤ n
  ·rw [if_pos h1,if_pos h1]
  ·rw [if_neg h1,if_neg h1,e2]
   cases headR s with
   | error c=>rfl
   | ok h =>
    simp only
    cases maniesS h.1 with
    | error c=>rfl
    | ok o =>
     cases o with
     | none =>
      simp only
      rw [e]
      cases decodeS Y0 h.1 h.2 <;> rfl
     | some b =>
      simp only
      cases betweenS b h.2 with
      | none=>rfl
      | some xs =>
       simp only
       rw [hall]
       cases allG (readT Y0 d) xs (n+1) <;> rfl
def Sm1:Nat → PT → Prop
 | 0,_=>False
 | D+1,.mk L b _ ps=>(L.length ≤ 2990∧(∀ f ∈ L,f.1.length ≤ 2500∧f.2.length ≤ 2500)∧hsz L ≤ 9000)∧b.length ≤ 3000∧ps.length ≤ 60∧∀ p ∈ ps,Sm1 D p
end Go.Proofs.YtknhacbfddggpaaGreatDoor
