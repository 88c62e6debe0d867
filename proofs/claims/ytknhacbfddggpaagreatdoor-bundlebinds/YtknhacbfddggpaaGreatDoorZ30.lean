import Derived.Test.YtknhacbfddggpaaGreatDoorZ29
import Derived.Test.YtknhacbfddggpaaGreatDoorZF5
namespace Go.Proofs.YtknhacbfddggpaaGreatDoor
open Go.RowKit
structure Tab (w:World):Prop where
 t : Lib.TabIs Tryz.prog w "internal/strconv.uint64pow10" .u64 Lib.pow10Tab
 lt:3 < w.heap.size
theorem gPow : Tryz.prog.globalNamed "internal/strconv.uint64pow10" = some 3 := by kernel_rfl
theorem Tab.below {w w':World} {B:Nat} (h:Tab w) (hb:Below B w w') (hB:3 < B):Tab w':=by
 obtain ⟨t,lt⟩:=h
 refine ⟨?_,Nat.lt_of_lt_of_le lt hb.size⟩
 unfold Lib.TabIs World.var? at t ⊢
 rw [gPow] at t ⊢
 simp only [Option.bind_some] at t ⊢
 rw [hb.block _ hB]
 exact t
theorem below_grow (w:World) (k:Nat) (os:Array Obj):Below w.heap.size w (Go.Sort.grow (w.drewN k) os):=by
 refine (below_draws w k).trans ⟨rfl,rfl,rfl,by simp [Go.Sort.grow],fun i hi=>?_⟩
 show ((w.drewN k).heap++os)[i]? = _
 rw [Array.getElem?_append_left]
 exact Nat.lt_of_lt_of_le hi (below_draws w k).size
theorem cell_one {w:World} {b:Nat} {v:Value} {t:TypeId} (h:w.heap[b]? = some (.cells #[v] t (0,0))):w.cell? ⟨b,0,none⟩ = some v:=by simp [World.cell?,h]
theorem itoa_nat (n:Nat):Lib.itoa (n:Int) = Lib.decDigits n:=by
 unfold Lib.itoa
 rw [if_neg (by omega)]
 rfl
theorem itoa_any (n:Nat) (w:World) (hn:n ≤ 1000000000) (ht:Tab w) :
  Calls Tryz.prog 48 #[.int .i64 n] w fun e w'=>e = .returned (.string ⟨(Lib.decDigits n).toArray⟩)∧Below w.heap.size w w':=by
 refine (Tryz.strconv_Itoa n (by omega) (by omega) w ht.t).mono ?_
 rintro e w' ⟨rfl,k,os,rfl⟩
 rw [itoa_nat]
 exact ⟨rfl,below_grow w k os⟩
def sumL (ss:List ByteArray):Nat:=(ss.map lst).flatten.length
theorem sum_snoc (ss:List ByteArray) (k:Nat) (x:ByteArray) (h:ss[k]? = some x):sumL (ss.take (k+1)) = sumL (ss.take k)+x.size:=by
 unfold sumL
 rw [List.take_add_one,h,List.map_append,List.flatten_append,List.length_append]
 simp [lst]
theorem sum_le (ss:List ByteArray) (k:Nat):sumL (ss.take k) ≤ sumL ss:=by
 unfold sumL
 conv=>rhs; rw [← List.take_append_drop k ss,List.map_append,List.flatten_append,List.length_append]
 omega
def freeU (xs:List (List UInt8)):List UInt8:=if 20000 < xs.flatten.length then numB 0 else bndS xs
theorem firstN_small (xs:List (List UInt8)) (h:xs.flatten.length ≤ 20000):firstN xs ≤ 1000000:=by
 obtain ⟨n,hn,hs⟩:=miss xs 4 (by omega)
 have:=firstN_le xs n hs
 omega
set_option maxHeartbeats 2000000 in
set_option maxRecDepth 100000 in
theorem pfree_any (v:Value) (ss:List ByteArray) (B:Nat) (w:World) (hO:OwnS w B v ss) (hn:ss.length ≤ 1000000) (hx:∀ x ∈ ss,x.size ≤ 1000000000) (hs:sumL ss ≤ 1000000000) (hm:Max w) (ht:Tab w) :
  Calls Tryz.prog 145 #[v] w fun e w'=>∃ E:ByteArray,e = .returned (.string E)∧E.data.toList = freeU (ss.map lst)∧Below w.heap.size w w':=by
 obtain ⟨A,n,cap,hv⟩:=hO.slice
 have HO0:=Box.mk hO
 subst hv
 have hnl:=hO.len
 have hn1:n ≤ ss.length:=Nat.le_of_eq hnl
 have hn2:ss.length ≤ n:=Nat.le_of_eq hnl.symm
 have HX:=Box.mk hx
 have HM:=Box.mk hm
 have HT:=Box.mk ht
 have HS:=Box.mk hs
 clear hO hnl hx hm ht hs
 go_enter Tryz.func145,Tryz.ntmps145
 go_wp2
 go_loopw [3,11] (fun z i wr=>∃ k c:Nat,k ≤ n∧z = .int .i64 c∧i = .int .i64 k∧c ≤ 1000000000∧Box (c = sumL (ss.take k))∧Below w.heap.size w wr) (fun _ i _=>n - (intOf i).toNat)
 case atStart=>exact ⟨0,0,Nat.zero_le _,rfl,rfl,by omega,⟨by simp [sumL]⟩,Below.refl _ _⟩
 case round =>
  obtain ⟨k,c,hk,rfl,rfl,hc9,HC,hb⟩:=hrel
  by_cases hlt:k < n
  ·have hkl:k < ss.length:=by omega
   obtain ⟨x,HXk⟩:∃ x,Box (ss[k]? = some x):=⟨_,⟨List.getElem?_eq_getElem hkl⟩⟩
   obtain ⟨g,hA,hg,hcell⟩:=HO0.out.at hb k x HXk.out
   subst hA
   have hxs:=HX.out x (List.mem_of_getElem? HXk.out)
   have HC':Box (c+x.size = sumL (ss.take (k+1))):=⟨by rw [sum_snoc ss k x HXk.out,HC.out]⟩
   have hle:c+x.size ≤ 1000000000:=by
    have h1:=sum_le ss (k+1)
    have h2:=HS.out
    have h3:=HC'.out
    omega
   clear HXk hkl HC HX HO0
   go_wp2
   go_roundw
   case rel=>exact ⟨k+1,c+x.size,by omega,by go_num,by go_num,hle,HC',hb⟩
   case measure=>simp [intOf]; omega
  ·have HC':Box (c = ((ss.map lst).flatten.length)):=⟨by
    have:=HC.out
    rw [List.take_of_length_le (by omega)] at this
    exact this⟩
   clear HC
   go_wp2
   generalize wr = wo at hb ⊢
   obtain ⟨F,HF⟩:∃ F,Box (F = firstN (ss.map lst)):=⟨_,⟨rfl⟩⟩
   have hF:c ≤ 20000 → F ≤ 1000000:=fun h=>by rw [HF.out]; exact firstN_small _ (by rw [← HC'.out]; exact h)
   go_loopw [6] (fun i wr=>∃ k:Nat,i = .int .i64 k∧k ≤ F∧k ≤ 1000000∧(20000 < c → k = 0)∧Below w.heap.size w wr) (fun i _=>F+1 - (intOf i).toNat)
   case atStart=>exact ⟨0,rfl,Nat.zero_le _,by omega,fun _=>rfl,hb⟩
   case round =>
    obtain ⟨k,rfl,hkF,hk6,hk0,hbr⟩:=hrel
    have hK0:=Box.mk hk0
    have HTr:=Box.mk (HT.out.below hbr HT.out.lt)
    clear hk0
    go_wp2_with fail
    refine (itoa_any k _ (by omega) HTr.out).mono ?_
    rintro e w2 ⟨rfl,hb2⟩
    have hdl:(Lib.decDigits k).length ≤ 10:=by
     rw [Lib.decDigits_length]
     exact nDigits_le 9 k (by omega)
    obtain ⟨D,HD⟩:∃ D:ByteArray,Box (D = ⟨(Lib.decDigits k).toArray⟩):=⟨_,⟨rfl⟩⟩
    rw [← HD.out]
    have hds:D.size ≤ 10:=by rw [HD.out,size_mk]; exact hdl
    obtain ⟨E,HE⟩:∃ E:ByteArray,Box (E = ⟨#[98]⟩++D):=⟨_,⟨rfl⟩⟩
    have HEl:Box (E.data.toList = numB k):=⟨by rw [HE.out,HD.out]; simp [numB]⟩
    have hes:E.size ≤ 100000:=by rw [HE.out,ByteArray.size_append]; show 1+D.size ≤ _; omega
    have hsum:¬ 9223372036854775807 < 1+D.size:=by omega
    have hb02:=hbr.trans (hb2.mono hbr.size)
    have hba:=below_oneP w2 (.cells #[.string E] 9)
    have hb03:=hb02.trans (hba.mono hb02.size)
    have hE0:(w2.alloc (.cells #[.string E] 9)).cell? ⟨w2.heap.size,0,none⟩ = some (.string E):=cell_one (heap_oneP w2 (.cells #[.string E] 9))
    by_cases hc2:20000 < c
    ·have hk00:=hK0.out hc2
     have HU:Box (freeU (ss.map lst) = numB k):=⟨by rw [freeU,if_pos (by rw [← HC'.out]; exact hc2),hk00]⟩
     clear HD HX HM HT HTr hF HF HO0 hE0 hK0 hk00
     go_wp2
     rw [← HE.out]
     go_ret
     exact ⟨E,rfl,by rw [HU.out]; exact HEl.out,hb03⟩
    ·have HOw:=Box.mk ((HO0.out.below hb03 (Nat.le_refl _)))
     have HMw:=Box.mk (HM.out.below hb03 HM.out.1)
     have HCt:=Box.mk (containsStands_any (.slice A n cap) ss E w2.heap.size B _ HOw.out hn HX.out hes hE0 HMw.out)
     have hst:((ss.map lst).any fun x=>Lib.contains x (lead E.data.toList)) = standsIn (ss.map lst) k:=by rw [HEl.out]; rfl
     rw [hst] at HCt
     clear hst
     cases hq:standsIn (ss.map lst) k
     ·have HU:Box (freeU (ss.map lst) = numB k):=⟨by
       have h1:=firstN_le _ _ hq
       have:k = firstN (ss.map lst):=by rw [HF.out] at hkF; omega
       rw [freeU,if_neg (by rw [← HC'.out]; exact hc2),bndS,← this]⟩
      rw [hq] at HCt
      clear HD HX HM HT HTr hF HF HO0 hK0 hq HOw HMw
      go_wp2_with fail
      rw [← HE.out]
      refine HCt.out.mono ?_
      rintro e w4 ⟨rfl,hb4⟩
      have hE4:=(hb4.cell (p:=⟨w2.heap.size,0,none⟩) (by simp)).trans hE0
      go_wp2
      go_ret
      exact ⟨E,rfl,by rw [HU.out]; exact HEl.out,hb03.trans (hb4.mono hb03.size)⟩
     ·have hkF':k+1 ≤ F:=by
       have h1:k ≠ F:=fun e=>by
        have:=(firstN_spec (ss.map lst)).1
        rw [← HF.out,← e,hq] at this
        cases this
       omega
      have hF6:=hF (by omega)
      rw [hq] at HCt
      clear HD HX HM HT HTr hF HF HO0 hq HOw HMw
      go_wp2_with fail
      rw [← HE.out]
      refine HCt.out.mono ?_
      rintro e w4 ⟨rfl,hb4⟩
      go_wp2
      go_roundw
      case rel=>exact ⟨k+1,by go_num,hkF',by omega,fun h=>absurd h hc2,hb03.trans (hb4.mono hb03.size)⟩
      case measure=>simp [intOf]; omega
end Go.Proofs.YtknhacbfddggpaaGreatDoor
namespace Go.Proofs.YtknhacbfddggpaaGreatDoor
open Go.RowKit
theorem ct_first:∀ (lh:List Fl) (f:Fl),lh.find? isCt = some f → firstP (fun f=>!isCt f) (lh.filter fun f=>!isCte f) < (lh.filter fun f=>!isCte f).length∧(lh.filter fun f=>!isCte f)[firstP (fun f=>!isCt f) (lh.filter fun f=>!isCte f)]? = some f
 | [],f,h=>by cases h
 | a :: lh,f,h=>by
  rw [List.find?_cons] at h
  cases hc:isCt a with
  | true =>
   rw [hc] at h
   obtain rfl:=Option.some.inj h
   have he:isCte a = false:=by
    unfold isCt at hc
    unfold isCte
    rw [decide_eq_false_iff_not,of_decide_eq_true hc]
    exact ct_ne
   rw [List.filter_cons,he]
   simp [firstP,hc]
  | false =>
   rw [hc] at h
   obtain ⟨h1,h2⟩:=ct_first lh f h
   rw [List.filter_cons]
   cases he:isCte a with
   | true=>simpa using ⟨h1,h2⟩
   | false =>
    have hs:firstP (fun f=>!isCt f) (a :: lh.filter fun f=>!isCte f) = firstP (fun f=>!isCt f) (lh.filter fun f=>!isCte f)+1:=by
     simp [firstP,hc]
    simp only [Bool.not_false,if_true]
    rw [hs]
    exact ⟨by simpa using h1,by simpa using h2⟩
theorem manies_ct (lh:List Fl) (b:List UInt8) (h:maniesS (lh.map fl2) = .ok (some b)):∃ f q,firstP (fun f=>!isCt f) (lh.filter fun f=>!isCte f) < (lh.filter fun f=>!isCte f).length∧(lh.filter fun f=>!isCte f)[firstP (fun f=>!isCt f) (lh.filter fun f=>!isCte f)]? = some f∧f ∈ lh∧readK f.2.data.toList = some q∧∃ p ∈ q.2,p.1 = bdN:=by
 have hg:=getS_getB lh ctN
 rw [show smallS ctN = ctN by decide] at hg
 unfold maniesS at h
 rw [hg] at h
 cases hs:getS lh ctN with
 | none=>rw [hs] at h; cases h
 | some f =>
  rw [hs] at h
  simp only [Option.map_some] at h
  have hf:lh.find? isCt = some f:=by
   rw [← hs]
   unfold getS isCt
   rw [show smallS ctN = ctN by decide]
  obtain ⟨h1,h2⟩:=ct_first lh f hf
  cases hk:readK f.2.data.toList with
  | none=>rw [show (fl2 f).2 = f.2.data.toList from rfl,hk] at h; cases h
  | some q =>
   rw [show (fl2 f).2 = f.2.data.toList from rfl,hk] at h
   simp only at h
   refine ⟨f,q,h1,h2,List.mem_of_find?_eq_some hf,hk,?_⟩
   split at h
   ·split at h
    ·rename_i hc
     have hl:=hc.1
     unfold getPB at hl
     cases hq:q.2.find? (fun p=>decide (p.1 = bdN)) with
     | none=>rw [hq] at hl; simp at hl
     | some p=>exact ⟨p,List.mem_of_find?_eq_some hq,by simpa using List.find?_some hq⟩
    ·cases h
   ·cases h
end Go.Proofs.YtknhacbfddggpaaGreatDoor
namespace Go.Proofs.YtknhacbfddggpaaGreatDoor
open Go.RowKit
def writeG (bn:List (List UInt8) → List UInt8):Nat → Nat → PT → Except Nat (List UInt8 × Nat)
 | 0,_,_=>.error 4
 | d+1,n,.mk L b many ps=>if 40 ≤ n then .error 4 else if mayU L b many ps.length = false then .error 1 else if many then
   match allG (writeG bn d) ps (n+1) with
   | .error e=>.error e
   | .ok r=>.ok (headW (setCT (bn r.1) L)++piecesW (bn r.1) r.1,r.2)
  else .ok (headW (stripH L++[(cteB,(encU b).1)])++(encU b).2,n+1)
abbrev writeC:=writeG freeU
def hsz (L:List PB):Nat:=(L.map fun f=>f.1.length+f.2.length+2).sum
theorem hsz_cons (f:PB) (L:List PB):hsz (f :: L) = f.1.length+f.2.length+2+hsz L:=by simp [hsz]
theorem hsz_app (L M:List PB):hsz (L++M) = hsz L+hsz M:=by simp [hsz]
theorem hsz_filter (p:PB → Bool) (L:List PB):hsz (L.filter p) ≤ hsz L:=by
 induction L with
 | nil=>exact Nat.le_refl _
 | cons f L ih =>
  rw [List.filter_cons]
  split
  ·rw [hsz_cons,hsz_cons]; omega
  ·rw [hsz_cons]; omega
def SmT:Nat → PT → Prop
 | 0,_=>False
 | D+1,.mk L b _ ps=>(L.length ≤ 3000∧(∀ f ∈ L,f.1.length ≤ 8000∧f.2.length ≤ 8000)∧hsz L ≤ 30000)∧b.length ≤ 100000∧ps.length ≤ 60∧∀ p ∈ ps,SmT D p
theorem headW_map (M:List Fl):headW (M.map fl2) = fieldsB M++[13,10]:=by
 unfold headW
 rw [List.map_map]
 have:(toF ∘ fl2) = id:=by
  funext f
  obtain ⟨a,b⟩:=f
  simp [toF,fl2]
 rw [this,List.map_id]
def WrPost (O:Except Nat (List UInt8 × Nat)) (bc:Nat) (e:Ending) (w':World):Prop:=
 match O with
 | .error c=>e = .returned (.tuple #[.string ⟨#[]⟩,.iface 30 (.int .i64 c)])
 | .ok q=>∃ S:ByteArray,e = .returned (.tuple #[.string S,.nilIface])∧S.data.toList = q.1∧CI w' bc q.2
set_option maxHeartbeats 2000000 in
set_option maxRecDepth 100000 in
theorem pwrite_no (u:P4) (n bc k:Nat) (w:World) (hu:∃ A n c bb m A2 n2 c2,u = (.slice A n c,.string bb,.bool m,.slice A2 n2 c2)) (hn:n ≤ 1000000) (hk:k ≤ 1000000) (hx:40 ≤ n ∨ 4 ≤ k) (hc:CI w bc n) :
  Calls Tryz.prog 61 #[.pointer (some ⟨bc,0,none⟩),u.v,.int .i64 k] w fun e w'=>WrPost (.error 4) bc e w'∧w.grownBy w' (some bc):=by
 obtain ⟨A,n1,c1,bb,m,A2,n2,c2,rfl⟩:=hu
 have hb0:=below_oneP w (obj4 (.slice A n1 c1) (.string bb) (.bool m) (.slice A2 n2 c2))
 have HC:=Box.mk (hc.below hb0 hc.lt)
 clear hc
 unfold P4.v
 go_enter Tryz.func61,Tryz.ntmps61
 go_wp2_with fail
 refine (begin_no bc n k _ HC.out hn hk hx).mono ?_
 rintro e w1 ⟨rfl,hw1⟩
 obtain rfl:=hw1.symm
 go_wp2
 go_ret2
 exact ⟨rfl,gr_below hb0 _⟩
set_option maxHeartbeats 2000000 in
set_option maxRecDepth 100000 in
theorem pwrite_bad (A:Option Addr) (n1 c1:Nat) (bb:ByteArray) (m:Bool) (A2:Option Addr) (n2 c2:Nat) (lh:List Fl) (n bc k:Nat) (w:World) (S:Nat → Prop) (hS:∀ i,S i → i ≠ bc) (hH:Half lh) (hF:FLB w S (.slice A n1 c1) lh) (hn2:n2 ≤ 1000000) (h40:¬ 40 ≤ n) (hk:¬ 4 ≤ k) (hc:CI w bc n) (hG:Glob w) (hbc:GB bc) (hmay:mayU (lh.map fl2) bb.data.toList m n2 = false) :
  Calls Tryz.prog 61 #[.pointer (some ⟨bc,0,none⟩),.agg #[.slice A n1 c1,.string bb,.bool m,.slice A2 n2 c2],.int .i64 k] w fun e w'=>WrPost (.error 1) bc e w'∧w.grownBy w' (some bc):=by
 have hb0:=below_oneP w (obj4 (.slice A n1 c1) (.string bb) (.bool m) (.slice A2 n2 c2))
 have HC:=Box.mk (hc.below hb0 hc.lt)
 have hbl:=hc.lt
 have HG:=Box.mk (hG.below hb0 hG.gb)
 have HF:=Box.mk (hF.abv (abv_below hb0))
 have HH:=Box.mk hH
 have HMy:=Box.mk hmay
 clear hc hG hF hH hmay
 go_enter Tryz.func61,Tryz.ntmps61
 go_wp2_with fail
 refine (begin_yes bc n k _ HC.out h40 hk).mono ?_
 rintro e w1 ⟨rfl,hC1,hg1⟩
 have hk1:=(hg1.block w.heap.size (by simp) (by simp; omega)).trans (heap_oneP w (obj4 (.slice A n1 c1) (.string bb) (.bool m) (.slice A2 n2 c2)))
 obtain ⟨x0,x1,x2,x3,xf⟩:=b4_of hk1
 have HG1:=Box.mk (HG.out.gr hg1 hbc (by simp; omega))
 have HF1:=Box.mk (FLB.fl (HF.out.abv (abv_gr hg1 (fun i hi e=>hS i hi (Option.some.inj e)))))
 have hg01:=gr_trans (gr_below hb0 (some bc)) hg1
 clear HC HG HF hC1
 go_wp2_with fail
 refine (mayBe_any A n1 c1 bb m A2 n2 c2 lh _ HH.out HF1.out HG1.out.mx HG1.out.nm hn2).mono ?_
 rintro e w2 ⟨rfl,hb2⟩
 rw [HMy.out]
 go_wp2
 go_ret2
 exact ⟨rfl,gr_trans hg01 (gr_below hb2 _)⟩
end Go.Proofs.YtknhacbfddggpaaGreatDoor
