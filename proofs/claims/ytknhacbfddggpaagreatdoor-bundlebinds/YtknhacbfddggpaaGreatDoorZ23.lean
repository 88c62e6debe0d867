import Derived.Test.YtknhacbfddggpaaGreatDoorZ14
import Derived.Test.YtknhacbfddggpaaGreatDoorZ16
import Derived.Test.YtknhacbfddggpaaGreatDoorZ15
import Derived.Test.YtknhacbfddggpaaGreatDoorZ18
import Derived.Test.YtknhacbfddggpaaGreatDoorZJG
namespace Go.Proofs.YtknhacbfddggpaaGreatDoor
open Go.RowKit
def totB (M:List FB):Nat:=(M.map fun f=>f.1.length+f.2.length).sum
theorem totB_append (a b:List FB):totB (a++b) = totB a+totB b:=by simp [totB]
theorem totB_one (f:FB):totB [f] = f.1.length+f.2.length:=by simp [totB]
theorem totB_mem (M:List FB) (f:FB) (h:f ∈ M):f.1.length+f.2.length ≤ totB M:=by
 induction M with
 | nil=>exact absurd h (by simp)
 | cons a M ih =>
  have e:totB (a :: M) = a.1.length+a.2.length+totB M:=by simp [totB]
  rw [e]
  rcases List.mem_cons.1 h with rfl | h
  ·omega
  ·have:=ih h; omega
theorem fieldOf_len (x:List UInt8) (f:FB) (h:fieldOf x = some f):f.1.length+f.2.length ≤ x.length:=by
 unfold fieldOf at h
 split at h
 ·obtain rfl:=(Option.some.inj h).symm
  rcases cut_parts x [58] with ⟨_,h⟩ | ⟨_,h1,h2⟩
  ·simp at h ⊢; omega
  ·simp [h1,h2]
 ·cases h
theorem addLast_tot (acc:List FB) (x:List UInt8):totB (addLast acc x) ≤ totB acc+x.length∧(addLast acc x).length = acc.length:=by
 rcases List.eq_nil_or_concat acc with rfl | ⟨M,f,rfl⟩
 ·simp [addLast,totB]
 ·rw [List.concat_eq_append,addLast_snoc,totB_append,totB_append,totB_one,totB_one]
  simp; omega
theorem refRun_tot:∀ (xs:List (List UInt8)) (n:Nat) (acc M:List FB),refRun xs n acc = .ok M → totB M ≤ totB acc+xs.flatten.length∧M.length ≤ acc.length+xs.length
 | [],n,acc,M,h=>by
  simp only [refRun,Except.ok.injEq] at h
  subst h; simp
 | x :: xs,n,acc,M,h=>by
  unfold refRun at h
  rw [List.flatten_cons,List.length_append,List.length_cons]
  split at h
  ·have:=refRun_tot xs _ _ M h
   have h2:=addLast_tot acc x
   omega
  ·cases hf:fieldOf x with
   | none=>rw [hf] at h; cases h
   | some f =>
    rw [hf] at h
    have:=refRun_tot xs _ _ M h
    rw [totB_append,totB_one,List.length_append,List.length_singleton] at this
    have h2:=fieldOf_len x f hf
    omega
theorem count_flatB (xs:List (List UInt8)) (h:∀ x ∈ xs,x ≠ []):xs.length ≤ xs.flatten.length:=by
 induction xs with
 | nil=>simp
 | cons a xs ih =>
  have h1:=List.length_pos_iff.2 (h a (by simp))
  have:=ih fun x hx=>h x (by simp [hx])
  rw [List.flatten_cons,List.length_append,List.length_cons]; omega
theorem headR_len (s:List UInt8) (h:List PB × List UInt8) (e:headR s = .ok h):h.1.length ≤ s.length∧(∀ f ∈ h.1,f.1.length ≤ s.length∧f.2.length ≤ s.length)∧h.2.length ≤ s.length:=by
 unfold headR at e
 have hf:=hl_flat _ s (Nat.le_refl _)
 have hn:=count_flatB _ (hl_some _ s (Nat.le_refl _))
 cases hr:refRun (hl s).1 0 [] with
 | error n=>rw [hr] at e; cases e
 | ok M =>
  rw [hr] at e
  have ht:=refRun_tot _ _ _ _ hr
  rw [show totB [] = 0 from rfl,List.length_nil] at ht
  simp only at e
  split at e
  ·obtain rfl:=(Except.ok.inj e).symm
   refine ⟨by rw [List.length_map]; omega,?_,by show (hl s).2.length ≤ _; omega⟩
   intro f hf'
   obtain ⟨g,hg,rfl⟩:=List.mem_map.1 hf'
   have h1:=totB_mem M g hg
   have h2:=trimS_len g.2
   show g.1.length ≤ _∧(trimS g.2).length ≤ _
   omega
  ·cases e
theorem half_of (s:List UInt8) (hs:s.length ≤ 100000) (L:List PB) (hL:L.length ≤ s.length∧∀ f ∈ L,f.1.length ≤ s.length∧f.2.length ≤ s.length) (lh:List Fl) (h:lh.map fl2 = L):Half lh:=by
 subst h
 refine ⟨by have:=hL.1; rw [List.length_map] at this; omega,fun f hf=>?_⟩
 have:=hL.2 (fl2 f) (List.mem_map_of_mem hf)
 unfold fl2 at this
 simp only at this
 rw [size_list,size_list] at this
 omega
def HPost (O:Except Nat (List PB × List UInt8)) (B:Nat) (e:Ending) (w':World):Prop:=
 match O with
 | .error c=>e = .returned (.tuple #[.slice none 0 0,.string ⟨#[]⟩,.iface 30 (.int .i64 c)])
 | .ok h=>∃ v rr lh,e = .returned (.tuple #[v,.string rr,.nilIface])∧OwnF w' B v lh∧lh.map fl2 = h.1∧rr.data.toList = h.2
theorem all_first (L:List Fl):(L.map fl2).all okB = decide (firstP okC L = L.length):=by
 induction L with
 | nil=>rfl
 | cons f L ih =>
  unfold firstP at ih ⊢
  rw [List.map_cons,List.all_cons,ih,List.takeWhile_cons]
  have e:okB (fl2 f) = okC f:=rfl
  rw [e]
  cases okC f with
  | false=>simp
  | true=>simp
theorem OwnF.mono' {w:World} {B C:Nat} {v:Value} {L:List Fl} (h:OwnF w C v L) (hB:B ≤ C):OwnF w B v L:=by
 obtain ⟨h1,h2⟩:=h
 refine ⟨h1,?_⟩
 rcases h2 with h2 | ⟨g,cap,cur,a,b,c⟩
 ·exact .inl h2
 ·exact .inr ⟨g,cap,cur,a,Nat.le_trans hB b,c⟩
set_option maxHeartbeats 1000000 in
theorem preadHead_any (s:ByteArray) (w:World) (hs:s.size ≤ 100000) (hm:Max w) (hE:ErrT w) :
  Calls Tryz.prog 71 #[.string s] w fun e w'=>HPost (headR s.data.toList) w.heap.size e w'∧Below w.heap.size w w':=by
 obtain ⟨O,HO⟩:∃ O,Box (O = headR s.data.toList):=⟨_,⟨rfl⟩⟩
 rw [← HO.out]
 have hlt:=hE.lt
 have HMx:=Box.mk hm
 have HEx:=Box.mk hE
 clear hm hE
 go_enter Tryz.func71,Tryz.ntmps71
 go_wp2_with fail
 refine (read_any s _ hs HMx.out).mono ?_
 rintro e w1 ⟨⟨n,E,hr,rfl,b,rfl,c0,c1⟩ | ⟨v,r,L,rfl,hr,hown,hT,hrr⟩,hb1⟩
 ·have HO':Box (O = .error 3):=⟨by rw [HO.out,headR,hr]⟩
  clear HO hr
  have HE1:=Box.mk (HEx.out.below hb1 hlt)
  go_wp2_with fail
  refine (tell_at 3 b _ c0 HE1.out).mono ?_
  rintro e w2 ⟨rfl,hb2⟩
  go_wp2
  go_ret3
  refine ⟨?_,hb1.trans (hb2.mono hb1.size)⟩
  rw [HO'.out]; rfl
 ·have HF:=Box.mk hown.fl
  have HT:=Box.mk hT
  have HR:=Box.mk hrr
  have HO':Box (O = if firstP okC L = L.length then .ok ((L.map fl2).map fun f=>(f.1,trimS f.2),(hl s.data.toList).2) else .error 1):=⟨by
   rw [HO.out,headR,hr]
   simp only [all_first,decide_eq_true_eq]⟩
  clear HO hr hown hT hrr
  go_wp2_with fail
  refine (hClean_any v L _ HT.out HF.out).mono ?_
  rintro e w2 ⟨⟨E,hlt2,rfl,b,rfl,c0,c1⟩ | ⟨v',M,he,rfl,hown,hM,hTM⟩,hb2⟩
  ·have HE2:=Box.mk ((HEx.out.below hb1 hlt).below (hb2.mono (Nat.le_refl _)) (Nat.lt_of_lt_of_le hlt hb1.size))
   have HO2:Box (O = .error 1):=⟨by rw [HO'.out,if_neg (by omega)]⟩
   clear HO' hlt2 c1
   go_wp2_with fail
   refine (tell_at 1 b _ c0 HE2.out).mono ?_
   rintro e w3 ⟨rfl,hb3⟩
   go_wp2
   go_ret3
   refine ⟨?_,hb1.trans ((hb2.trans (hb3.mono hb2.size)).mono hb1.size)⟩
   rw [HO2.out]; rfl
  ·have HO2:Box (O = .ok (M.map fl2,(hl s.data.toList).2)):=⟨by
    rw [HO'.out,if_pos he,hM,List.map_map]; rfl⟩
   have hown':=hown.mono' hb1.size
   clear HO' he hM hown
   go_wp2
   go_ret3
   refine ⟨?_,hb1.trans (hb2.mono hb1.size)⟩
   rw [HO2.out]
   exact ⟨_,_,M,rfl,hown',rfl,HR.out⟩
end Go.Proofs.YtknhacbfddggpaaGreatDoor
namespace Go.Proofs.YtknhacbfddggpaaGreatDoor
open Go.RowKit
def ctB:ByteArray:=⟨#[67,111,110,116,101,110,116,45,84,121,112,101]⟩
def cteA:ByteArray:=⟨#[67,111,110,116,101,110,116,45,84,114,97,110,115,102,101,114,45,69,110,99,111,100,105,110,103]⟩
structure Names (w:World):Prop where
 c0:w.cell? ⟨1,0,none⟩ = some (.string ctB)
 c1:w.cell? ⟨1,1,none⟩ = some (.string cteA)
theorem Names.lt {w:World} (h:Names w):1 < w.heap.size:=World.block_lt_of_cell? w _ h.c0
theorem Names.below {w w':World} {B:Nat} (h:Names w) (hb:Below B w w') (hB:1 < B):Names w':=⟨(hb.cell (p:=⟨1,0,none⟩) hB).trans h.c0,(hb.cell (p:=⟨1,1,none⟩) hB).trans h.c1⟩
theorem getS_getB (L:List Fl) (s:List UInt8):getB (L.map fl2) (smallS s) = (getS L s).map fl2:=by
 unfold getB getS
 rw [List.find?_map]
 rfl
theorem getS_mem (L:List Fl) (s:List UInt8) (f:Fl) (h:getS L s = some f):f ∈ L:=List.mem_of_find?_eq_some h
theorem getP_getPB (L:List Fl):∃ (bb:ByteArray) (q:Bool),getV (getP L bdN) = .tuple #[.string bb,.bool q]∧bb.data.toList = getPB (L.map pb2):=by
 have h:(L.map pb2).find? (fun p=>decide (p.1 = bdN)) = (getP L bdN).map pb2:=by
  unfold getP
  rw [List.find?_map]
  rfl
 unfold getPB
 rw [h]
 cases getP L bdN with
 | none=>exact ⟨⟨#[]⟩,false,rfl,rfl⟩
 | some f=>exact ⟨f.2,true,rfl,rfl⟩
theorem suffix_one (l:List UInt8) (c:UInt8):Lib.hasSuffix l [c] = decide (l.getLast? = some c):=by
 unfold Lib.hasSuffix
 rw [Bool.eq_iff_iff,decide_eq_true_eq,List.isSuffixOf_iff_suffix]
 constructor
 ·rintro ⟨t,rfl⟩; simp
 ·intro h
  obtain ⟨t,rfl⟩:=List.getLast?_eq_some_iff.1 h
  exact ⟨t,rfl⟩
theorem teq_of (t:ByteArray) (l:List UInt8) (h:t.data.toList = l):(t.toList == l) = true:=by rw [ByteArray.toList_eq,h]; exact beq_self_eq_true _
theorem tne_of (t:ByteArray) (l:List UInt8) (h:¬ t.data.toList = l):(t.toList == l) = false:=by rw [ByteArray.toList_eq,beq_eq_false_iff_ne]; exact h
def EPost (O:Except Nat (Option (List UInt8))) (e:Ending):Prop:=
 match O with
 | .error c=>e = .returned (.tuple #[.string ⟨#[]⟩,.iface 30 (.int .i64 c)])
 | .ok none=>e = .returned (.tuple #[.string ⟨#[]⟩,.nilIface])
 | .ok (some b)=>∃ bb:ByteArray,e = .returned (.tuple #[.string bb,.nilIface])∧bb.data.toList = b∧¬ bb.size = 0∧bb.size ≤ 70
set_option maxHeartbeats 1000000 in
set_option maxRecDepth 100000 in
theorem pedge_any (v:Value) (lh:List Fl) (w:World) (hT:Half lh) (hF:FL w v lh) (hm:Max w) (hN:Names w) :
  Calls Tryz.prog 72 #[v] w fun e w'=>EPost (maniesS (lh.map fl2)) e∧Below w.heap.size w w':=by
 obtain ⟨O,HO⟩:∃ O,Box (O = maniesS (lh.map fl2)):=⟨_,⟨rfl⟩⟩
 rw [← HO.out]
 obtain ⟨n0,n1⟩:=hN
 have hg:=getS_getB lh ctB.data.toList
 rw [show smallS ctB.data.toList = ctN by decide] at hg
 have HMx:=Box.mk hm
 have HT:=Box.mk hT
 have HF:=Box.mk hF
 have hlt:=hm.1
 clear hm hT hF
 go_enter Tryz.func72,Tryz.ntmps72
 go_wp2_with fail
 refine (get_any v lh ctB _ (by decide) HT.out.tiny HF.out).mono ?_
 rintro e w1 ⟨rfl,hb1⟩
 cases hgs:getS lh ctB.data.toList with
 | none =>
  rw [hgs] at hg
  have HO':Box (O = .ok none):=⟨by rw [HO.out,maniesS,hg]; rfl⟩
  clear hg hgs HO
  rw [show getV none = .tuple #[.string ⟨#[]⟩,.bool false] from rfl]
  go_wp2
  go_ret2
  refine ⟨?_,hb1⟩
  rw [HO'.out]; rfl
 | some f =>
  rw [hgs] at hg
  have hfs:=(HT.out.2 f (getS_mem _ _ _ hgs)).2
  have HO':Box (O = match readK f.2.data.toList with
   | none=>.error 3
   | some q=>if multiN.isPrefixOf q.1 then (if 1 ≤ (getPB q.2).length∧(getPB q.2).length ≤ 70∧(getPB q.2).getLast? ≠ some 32 then .ok (some (getPB q.2)) else .error 3) else .ok none):=⟨by rw [HO.out,maniesS,hg]; rfl⟩
  have HM1:=Box.mk (HMx.out.below hb1 hlt)
  clear hg hgs HO HMx
  obtain ⟨fn,fv⟩:=f
  rw [show getV (some (fn,fv)) = .tuple #[.string fv,.bool true] from rfl]
  go_wp2_with fail
  refine (kread_any fv _ hfs HM1.out).mono ?_
  rintro e w2 ⟨hR,hb2⟩
  have hb02:=hb1.trans (hb2.mono hb1.size)
  unfold RPost at hR
  cases hk:readK fv.data.toList with
  | none =>
   rw [hk] at hR
   obtain rfl:=hR
   have HO2:Box (O = .error 3):=⟨by rw [HO'.out]; simp only [hk]⟩
   clear HO' hk
   go_wp2
   go_ret2
   refine ⟨?_,hb02⟩
   rw [HO2.out]; rfl
  | some q =>
   rw [hk] at hR
   obtain ⟨m,vq,L,rfl,hm,hown,hL,hms,hLs,hfsz⟩:=hR
   have HO2:Box (O = if multiN.isPrefixOf q.1 then (if 1 ≤ (getPB q.2).length∧(getPB q.2).length ≤ 70∧(getPB q.2).getLast? ≠ some 32 then .ok (some (getPB q.2)) else .error 3) else .ok none):=⟨by rw [HO'.out]; simp only [hk]⟩
   have HFL:=Box.mk hown.fl
   have HTL:Box (Tiny L):=⟨⟨by omega,fun g hg=>by have:=hfsz g hg; omega⟩⟩
   rw [← hm,← hL] at HO2
   clear HO' hk hm hL hown hfsz
   go_wp2_with fail
   refine (Tryz.strings_HasPrefix m ⟨#[109,117,108,116,105,112,97,114,116,47]⟩ _).mono ?_
   rintro e w3 ⟨rfl,hw3⟩
   obtain rfl:=hw3.symm
   have hpe:Lib.hasPrefix m.data.toList (⟨#[109,117,108,116,105,112,97,114,116,47]⟩:ByteArray).data.toList = multiN.isPrefixOf m.data.toList:=rfl
   rw [hpe]
   clear hpe
   cases hp:multiN.isPrefixOf m.data.toList with
   | false =>
    have HO3:Box (O = .ok none):=⟨by rw [HO2.out,hp]; rfl⟩
    clear HO2 hp
    go_wp2
    go_ret2
    refine ⟨?_,hb02⟩
    rw [HO3.out]; rfl
   | true =>
    obtain ⟨bb,qq,hV,hbb⟩:=getP_getPB L
    have HO3:Box (O = if 1 ≤ bb.data.toList.length∧bb.data.toList.length ≤ 70∧bb.data.toList.getLast? ≠ some 32 then .ok (some bb.data.toList) else .error 3):=⟨by rw [HO2.out,hp,hbb]; rfl⟩
    have HV:=Box.mk hV
    rw [size_list] at HO3
    clear HO2 hp hV hbb
    go_wp2_with fail
    refine (kget_any vq L ⟨#[98,111,117,110,100,97,114,121]⟩ _ HTL.out HFL.out).mono ?_
    rintro e w4 ⟨rfl,hb4⟩
    have hb04:=hb02.trans (hb4.mono hb02.size)
    rw [show (⟨#[98,111,117,110,100,97,114,121]⟩:ByteArray).data.toList = bdN from rfl,HV.out]
    clear HV HTL HFL
    by_cases h0:bb.size = 0
    ·have he:=empty_of bb h0
     have HO4:Box (O = .error 3):=⟨by rw [HO3.out,if_neg (fun h=>by omega)]⟩
     clear HO3 h0
     go_wp2
     go_ret2
     refine ⟨?_,hb04⟩
     rw [HO4.out]; rfl
    ·have he:=nonempty_of bb h0
     by_cases h1:70 < bb.size
     ·have HO4:Box (O = .error 3):=⟨by rw [HO3.out,if_neg (fun h=>by omega)]⟩
      clear HO3
      go_wp2
      go_ret2
      refine ⟨?_,hb04⟩
      rw [HO4.out]; rfl
     ·go_wp2_with fail
      refine (Sx.Tryz.strings_HasSuffix bb ⟨#[32]⟩ _ (by omega)).mono ?_
      rintro e w5 ⟨rfl,hw5⟩
      obtain rfl:=hw5.symm
      have hse:Lib.hasSuffix bb.data.toList (⟨#[32]⟩:ByteArray).data.toList = decide (bb.data.toList.getLast? = some 32):=suffix_one _ _
      rw [hse]
      clear hse
      by_cases h2:bb.data.toList.getLast? = some 32
      ·have HO4:Box (O = .error 3):=⟨by rw [HO3.out,if_neg (fun h=>h.2.2 h2)]⟩
       rw [decide_eq_true h2]
       clear HO3 h2
       go_wp2
       go_ret2
       refine ⟨?_,hb04⟩
       rw [HO4.out]; rfl
      ·have HO4:Box (O = .ok (some bb.data.toList)):=⟨by rw [HO3.out,if_pos ⟨by omega,by omega,h2⟩]⟩
       rw [decide_eq_false h2]
       clear HO3 h2
       go_wp2
       go_ret2
       refine ⟨?_,hb04⟩
       rw [HO4.out]
       exact ⟨bb,rfl,rfl,h0,by omega⟩
def DPost (O:Except Nat (List UInt8)) (e:Ending):Prop:=
 match O with
 | .error c=>e = .returned (.tuple #[.string ⟨#[]⟩,.iface 30 (.int .i64 c)])
 | .ok b=>e = .returned (.tuple #[.string ⟨b.toArray⟩,.nilIface])
theorem mk_data (s:ByteArray):(⟨s.data.toList.toArray⟩:ByteArray) = s:=by simp
theorem dpost_un (o:Option (List UInt8)):DPost (someOr 3 o) (.returned (Tx.unV o)):=by cases o <;> rfl
set_option maxHeartbeats 1000000 in
set_option maxRecDepth 100000 in
theorem pdecode_any (v:Value) (lh:List Fl) (s:ByteArray) (w:World) (hs:s.size ≤ 20000) (hT:Half lh) (hF:FL w v lh) (hm:Max w) (hN:Names w) :
  Calls Tryz.prog 117 #[v,.string s] w fun e w'=>DPost (decodeU (lh.map fl2) s.data.toList) e∧Below w.heap.size w w':=by
 obtain ⟨O,HO⟩:∃ O,Box (O = decodeU (lh.map fl2) s.data.toList):=⟨_,⟨rfl⟩⟩
 rw [← HO.out]
 obtain ⟨n0,n1⟩:=hN
 have hg:=getS_getB lh cteA.data.toList
 rw [show smallS cteA.data.toList = cteN by decide] at hg
 have HMx:=Box.mk hm
 have HT:=Box.mk hT
 have HF:=Box.mk hF
 have hlt:=hm.1
 clear hm hT hF
 go_enter Tryz.func117,Tryz.ntmps117
 go_wp2_with fail
 refine (get_any v lh cteA _ (by decide) HT.out.tiny HF.out).mono ?_
 rintro e w1 ⟨rfl,hb1⟩
 cases hgs:getS lh cteA.data.toList with
 | none =>
  rw [hgs] at hg
  have HO':Box (O = .ok s.data.toList):=⟨by rw [HO.out,decodeU,hg]; rfl⟩
  clear hg hgs HO
  rw [show getV none = .tuple #[.string ⟨#[]⟩,.bool false] from rfl]
  go_wp2
  go_ret2
  refine ⟨?_,hb1⟩
  rw [HO'.out]
  show _ = _
  rw [mk_data]
  rfl
 | some f =>
  rw [hgs] at hg
  have hfs:=(HT.out.2 f (getS_mem _ _ _ hgs)).2
  have HO':Box (O = if smallS f.2.data.toList = bit7 ∨ smallS f.2.data.toList = bit8 ∨ smallS f.2.data.toList = binN then .ok s.data.toList else if smallS f.2.data.toList = b64N then someOr 3 (Tx.unpackS s.data.toList) else if smallS f.2.data.toList = qpN then someOr 3 (Tx.unquoteS s.data.toList) else .error 5):=⟨by rw [HO.out,decodeU,hg]; rfl⟩
  have HM1:Box (Tx.Max w1):=⟨HMx.out.below hb1 hlt⟩
  clear hg hgs HO HMx
  obtain ⟨fn,fv⟩:=f
  rw [show getV (some (fn,fv)) = .tuple #[.string fv,.bool true] from rfl]
  go_wp2_with fail
  refine (small_str fv _ (Nat.le_trans hfs (by decide))).mono ?_
  rintro e w2 ⟨t,rfl,ht,hb2⟩
  have hb02:=hb1.trans (hb2.mono hb1.size)
  have HM2:Box (Tx.Max w2):=⟨HM1.out.below hb2 (Nat.lt_of_lt_of_le hlt hb1.size)⟩
  rw [← ht] at HO'
  clear ht HM1
  by_cases h7:t.data.toList = bit7
  ·have e1:=teq_of t [55,98,105,116] h7
   have HO2:Box (O = .ok s.data.toList):=⟨by rw [HO'.out,if_pos (.inl h7)]⟩
   clear HO' h7
   go_wp2
   go_ret2
   refine ⟨?_,hb02⟩
   rw [HO2.out]
   show _ = _
   rw [mk_data]
   rfl
  ·have e1:=tne_of t [55,98,105,116] h7
   by_cases h8:t.data.toList = bit8
   ·have e2:=teq_of t [56,98,105,116] h8
    have HO2:Box (O = .ok s.data.toList):=⟨by rw [HO'.out,if_pos (.inr (.inl h8))]⟩
    clear HO' h7 h8
    go_wp2
    go_ret2
    refine ⟨?_,hb02⟩
    rw [HO2.out]
    show _ = _
    rw [mk_data]
    rfl
   ·have e2:=tne_of t [56,98,105,116] h8
    by_cases hbn:t.data.toList = binN
    ·have e3:=teq_of t [98,105,110,97,114,121] hbn
     have HO2:Box (O = .ok s.data.toList):=⟨by rw [HO'.out,if_pos (.inr (.inr hbn))]⟩
     clear HO' h7 h8 hbn
     go_wp2
     go_ret2
     refine ⟨?_,hb02⟩
     rw [HO2.out]
     show _ = _
     rw [mk_data]
     rfl
    ·have e3:=tne_of t [98,105,110,97,114,121] hbn
     have HO2:Box (O = if t.data.toList = b64N then someOr 3 (Tx.unpackS s.data.toList) else if t.data.toList = qpN then someOr 3 (Tx.unquoteS s.data.toList) else .error 5):=⟨by rw [HO'.out,if_neg (by rintro (h | h | h); exact h7 h; exact h8 h; exact hbn h)]⟩
     clear HO' h7 h8 hbn
     by_cases h6:t.data.toList = b64N
     ·have e4:=teq_of t [98,97,115,101,54,52] h6
      have HO3:Box (O = someOr 3 (Tx.unpackS s.data.toList)):=⟨by rw [HO2.out,if_pos h6]⟩
      clear HO2 h6
      go_wp2_with fail
      refine (Tx.unpack_any s _ (by omega)).mono ?_
      rintro e w3 ⟨rfl,hb3⟩
      have hb03:=hb02.trans (hb3.mono hb02.size)
      have HD:Box (DPost O (.returned (Tx.unV (Tx.unpackS s.data.toList)))):=⟨by rw [HO3.out]; exact dpost_un _⟩
      clear HO3
      cases hu:Tx.unpackS s.data.toList <;> rw [hu] at HD <;> clear hu
      all_goals
       dsimp only [Tx.unV] at HD ⊢
       go_wp2
       go_ret2
       exact ⟨HD.out,hb03⟩
     ·have e4:=tne_of t [98,97,115,101,54,52] h6
      by_cases hq:t.data.toList = qpN
      ·have e5:=teq_of t [113,117,111,116,101,100,45,112,114,105,110,116,97,98,108,101] hq
       have HO3:Box (O = someOr 3 (Tx.unquoteS s.data.toList)):=⟨by rw [HO2.out,if_neg h6,if_pos hq]⟩
       clear HO2 h6 hq
       go_wp2_with fail
       refine (Tx.unquote_any s _ (by omega) HM2.out).mono ?_
       rintro e w3 ⟨rfl,hb3⟩
       have hb03:=hb02.trans (hb3.mono hb02.size)
       have HD:Box (DPost O (.returned (Tx.unV (Tx.unquoteS s.data.toList)))):=⟨by rw [HO3.out]; exact dpost_un _⟩
       clear HO3
       cases hu:Tx.unquoteS s.data.toList <;> rw [hu] at HD <;> clear hu
       all_goals
        dsimp only [Tx.unV] at HD ⊢
        go_wp2
        go_ret2
        exact ⟨HD.out,hb03⟩
      ·have e5:=tne_of t [113,117,111,116,101,100,45,112,114,105,110,116,97,98,108,101] hq
       have HO3:Box (O = .error 5):=⟨by rw [HO2.out,if_neg h6,if_neg hq]⟩
       clear HO2 h6 hq
       go_wp2
       go_ret2
       refine ⟨?_,hb02⟩
       rw [HO3.out]; rfl
end Go.Proofs.YtknhacbfddggpaaGreatDoor
namespace Go.Proofs.YtknhacbfddggpaaGreatDoor
open Go.RowKit
theorem heap_oneP (w:World) (A:Obj):(w.alloc A).heap[w.heap.size]? = some A:=by
 show (w.heap.push A)[w.heap.size]? = _
 simp
theorem below_oneP (w:World) (A:Obj):Below w.heap.size w (w.alloc A):=(Below.refl _ _).alloc (Nat.le_refl _) _
theorem size_oneP (w:World) (A:Obj):(w.alloc A).heap.size = w.heap.size+1:=by simp
structure B4 (w:World) (b:Nat) (v0 v1 v2 v3:Value):Prop where
 c0:w.cell? ⟨b,0,none⟩ = some v0
 c1:w.cell? ⟨b,1,none⟩ = some v1
 c2:w.cell? ⟨b,2,none⟩ = some v2
 c3:w.cell? ⟨b,3,none⟩ = some v3
 fz:∀ i,w.frozen? ⟨b,i,none⟩ = false
theorem b4_of {w:World} {b:Nat} {v0 v1 v2 v3:Value} (h:w.heap[b]? = some (.cells #[v0,v1,v2,v3] 44 (0,0))):B4 w b v0 v1 v2 v3:=
 ⟨by simp [World.cell?,h],by simp [World.cell?,h],by simp [World.cell?,h],by simp [World.cell?,h],fun i=>by simp [World.frozen?,h]⟩
abbrev zeroO:Obj:=.cells #[.slice none 0 0,.string ⟨#[]⟩,.bool false,.slice none 0 0] 44
abbrev zeroP:Value:=.agg #[.slice none 0 0,.string ⟨#[]⟩,.bool false,.slice none 0 0]
def BPost (O:Except Nat (List UInt8)) (v:Value) (e:Ending):Prop:=
 match O with
 | .error c=>e = .returned (.tuple #[zeroP,.iface 30 (.int .i64 c)])
 | .ok b=>e = .returned (.tuple #[.agg #[v,.string ⟨b.toArray⟩,.bool false,.slice none 0 0],.nilIface])
set_option maxHeartbeats 1000000 in
set_option maxRecDepth 100000 in
theorem preadBody_any (v:Value) (lh:List Fl) (s:ByteArray) (w:World) (hs:s.size ≤ 20000) (hT:Half lh) (hF:FL w v lh) (hm:Max w) (hN:Names w) :
  Calls Tryz.prog 73 #[v,.string s] w fun e w'=>BPost (decodeU (lh.map fl2) s.data.toList) v e∧Below w.heap.size w w':=by
 obtain ⟨A,n,cap,hv⟩:∃ A n cap,v = .slice A n cap:=by obtain ⟨A,cap,hv,_⟩:=hF; exact ⟨A,_,cap,hv⟩
 subst hv
 have hb0:=below_oneP w zeroO
 have HMx:=Box.mk (hm.below hb0 hm.1)
 have HNx:=Box.mk (hN.below hb0 hN.lt)
 have HT:=Box.mk hT
 have HF:=Box.mk (hF.below hb0 (Nat.le_refl _))
 obtain ⟨O,HO⟩:∃ O,Box (O = decodeU (lh.map fl2) s.data.toList):=⟨_,⟨rfl⟩⟩
 rw [← HO.out]
 clear hm hN hT hF
 go_enter Tryz.func73,Tryz.ntmps73
 go_wp2_with fail
 refine (pdecode_any _ lh s _ hs HT.out HF.out HMx.out HNx.out).mono ?_
 rintro e w1 ⟨hD,hb1⟩
 rw [← HO.out] at hD
 have hsz1:=hb1.size
 have b1:=hb0.trans (hb1.mono (by rw [size_oneP]; omega))
 obtain ⟨x0,x1,x2,x3,xf⟩:=b4_of ((hb1.block w.heap.size (by simp)).trans (heap_oneP w zeroO))
 clear HT HF HMx HNx HO hb1
 unfold DPost at hD
 cases O with
 | error c =>
  obtain rfl:=hD
  go_wp2
  refine bodyPost_ret (v:=.tuple #[zeroP,.iface 30 (.int .i64 c)]) (by simp [results,Tryz.results73,go_sem,x0,x1,x2,x3]) rfl ⟨rfl,?_⟩
  iterate 4 (refine Below.setCell ?_ (by simp) _)
  exact b1
 | ok b =>
  obtain rfl:=hD
  obtain ⟨bb,HB⟩:∃ bb:ByteArray,Box (bb = ⟨b.toArray⟩):=⟨_,⟨rfl⟩⟩
  rw [← HB.out]
  go_wp2
  refine bodyPost_ret (v:=.tuple #[.agg #[.slice A n cap,.string bb,.bool false,.slice none 0 0],.nilIface]) (by simp [results,Tryz.results73,go_sem,x0,x1,x2,x3]) rfl ⟨by rw [HB.out]; rfl,?_⟩
  iterate 4 (refine Below.setCell ?_ (by simp) _)
  exact b1
end Go.Proofs.YtknhacbfddggpaaGreatDoor
namespace Go.Proofs.YtknhacbfddggpaaGreatDoor
open Go.RowKit
structure Glob (w:World):Prop where
 mx:Max w
 nm:Names w
 et:ErrT w
structure GB (b:Nat):Prop where
 g0:2 < b
 g1:1 < b
 g2:0 < b
theorem GB.mono {a b:Nat} (h:GB a) (hb:a ≤ b):GB b:=⟨Nat.lt_of_lt_of_le h.g0 hb,Nat.lt_of_lt_of_le h.g1 hb,Nat.lt_of_lt_of_le h.g2 hb⟩
theorem Glob.gb {w:World} (h:Glob w):GB w.heap.size:=⟨h.mx.1,h.nm.lt,h.et.lt⟩
theorem Glob.below {w w':World} {B:Nat} (h:Glob w) (hb:Below B w w') (hB:GB B):Glob w':=⟨h.mx.below hb hB.g0,h.nm.below hb hB.g1,h.et.below hb hB.g2⟩
theorem Glob.gr {w w':World} {bc:Nat} (h:Glob w) (hg:w.grownBy w' (some bc)) (hc:GB bc) (hl:bc < w.heap.size):Glob w':=h.below (below_gr hg (Nat.le_refl _) hl) hc
theorem gr_new {w a:World} {bc b k:Nat} (h:w.grownBy a (some bc)) (hb:w.heap.size ≤ b) (v:Value):w.grownBy (a.setCell ⟨b,k,none⟩ v) (some bc):=
 ⟨h.os,h.tape,h.output,by simpa using h.size,fun i hi hr=>(heap_setCell_other a ⟨b,k,none⟩ i v (by show i ≠ b; omega)).trans (h.block i hi hr)⟩
theorem gr_own {w a c:World} {bc:Nat} {r:Option Nat} (h:w.grownBy a (some bc)) (k:a.grownBy c r) (hr:∀ k,r = some k → w.heap.size ≤ k):w.grownBy c (some bc):=
 ⟨k.os.trans h.os,k.tape.trans h.tape,k.output.trans h.output,Nat.le_trans h.size k.size,fun i hi hb=>(k.block i (Nat.lt_of_lt_of_le hi h.size) (fun e=>by have:=hr i e.symm; omega)).trans (h.block i hi hb)⟩
theorem CI.own {w w':World} {b n:Nat} {r:Option Nat} (h:CI w b n) (hg:w.grownBy w' r) (hne:some b ≠ r):CI w' b n:=by
 have e:w'.heap[b]? = w.heap[b]?:=hg.block b h.lt hne
 exact ⟨(World.cell?_of_block (a:=⟨b,0,none⟩) e).trans h.c,(World.frozen?_of_block (a:=⟨b,0,none⟩) e).trans h.f,Nat.lt_of_lt_of_le h.lt hg.size⟩
theorem gr_alloc {w a:World} {bc:Nat} (h:w.grownBy a (some bc)) (o:Obj):w.grownBy (a.alloc o) (some bc):=gr_trans h (gr_below (below_oneP a o) _)
theorem below_twoP (w:World) (A B:Obj):Below w.heap.size w ((w.alloc A).alloc B):=((Below.refl _ _).alloc (Nat.le_refl _) _).alloc (by simp) _
theorem PV.shape {w:World} {S:Nat → Prop} {d:Nat} {v:P4} {p:PT} (h:PV w S d v p):∃ A n c bb m A2 n2 c2,v = (.slice A n c,.string bb,.bool m,.slice A2 n2 c2):=by
 match d,p,h with
 | 0,_,h=>exact h.elim
 | d+1,.mk L b many ps,h =>
  obtain ⟨A,cap,bb,lh,h1,h2,h3,⟨A',cap',h4,_⟩,_⟩:=h
  obtain ⟨a,b,c,d⟩:=v
  simp only at h1 h2 h3 h4
  subst h1 h2 h3 h4
  exact ⟨_,_,_,_,_,_,_,_,rfl⟩
def RdPost (O:Except Nat (PT × Nat)) (d bc B:Nat) (e:Ending) (w':World):Prop:=
 match O with
 | .error c=>e = .returned (.tuple #[zeroP,.iface 30 (.int .i64 c)])
 | .ok q=>∃ v:P4,e = .returned (.tuple #[v.v,.nilIface])∧PV w' (fun i=>B ≤ i) d v q.1∧CI w' bc q.2
def PVL (w:World) (S:Nat → Prop) (d:Nat) (L:List P4) (ps:List PT):Prop:=L.length = ps.length∧∀ i (h:i < L.length) (h':i < ps.length),PV w S d L[i] ps[i]
theorem PVL.mono {w:World} {S T:Nat → Prop} {d:Nat} {L:List P4} {ps:List PT} (h:PVL w S d L ps) (hS:∀ i,i < w.heap.size → S i → T i):PVL w T d L ps:=⟨h.1,fun i h1 h2=>PV.mono hS _ _ _ (h.2 i h1 h2)⟩
theorem PVL.abv {w w':World} {S:Nat → Prop} {d:Nat} {L:List P4} {ps:List PT} (h:PVL w S d L ps) (ha:Abv S w w'):PVL w' S d L ps:=⟨h.1,fun i h1 h2=>PV.abv ha _ _ _ (h.2 i h1 h2)⟩
theorem PVL.nil (w:World) (S:Nat → Prop) (d:Nat):PVL w S d [] []:=⟨rfl,fun i h=>absurd h (by simp)⟩
theorem PVL.snoc {w:World} {S:Nat → Prop} {d:Nat} {L:List P4} {ps:List PT} (h:PVL w S d L ps) (v:P4) (p:PT) (hp:PV w S d v p):PVL w S d (L++[v]) (ps++[p]):=by
 obtain ⟨h1,h2⟩:=h
 refine ⟨by simp [h1],fun i hi hi'=>?_⟩
 by_cases hl:i < L.length
 ·rw [List.getElem_append_left hl,List.getElem_append_left (by omega)]
  exact h2 i hl (by omega)
 ·have:i = L.length:=by simp at hi; omega
  subst this
  rw [List.getElem_concat_length rfl,List.getElem_append_right (by omega)]
  simp [h1,hp]
def AllI {α β:Type} (f:Nat → α → Except Nat (β × Nat)) (xs:List α) (R:Except Nat (List β × Nat)) (i m:Nat) (acc:List β):Prop:=
 R = match allG f (xs.drop i) m with
  | .error c=>.error c
  | .ok r=>.ok (acc++r.1,r.2)
theorem all_start {α β:Type} (f:Nat → α → Except Nat (β × Nat)) (xs:List α) (n:Nat):AllI f xs (allG f xs n) 0 n []:=by
 unfold AllI
 rw [List.drop_zero]
 cases allG f xs n <;> rfl
theorem all_err {α β:Type} {f:Nat → α → Except Nat (β × Nat)} {xs:List α} {R:Except Nat (List β × Nat)} {i m:Nat} {acc:List β} (h:AllI f xs R i m acc) (x:α) (hx:xs[i]? = some x) (c:Nat) (hf:f m x = .error c):R = .error c:=by
 unfold AllI at h
 rw [h,drop_at xs i x hx,allG,hf]
theorem all_ok {α β:Type} {f:Nat → α → Except Nat (β × Nat)} {xs:List α} {R:Except Nat (List β × Nat)} {i m:Nat} {acc:List β} (h:AllI f xs R i m acc) (x:α) (hx:xs[i]? = some x) (q:β × Nat) (hf:f m x = .ok q):AllI f xs R (i+1) q.2 (acc++[q.1]):=by
 unfold AllI at h ⊢
 rw [h,drop_at xs i x hx,allG,hf]
 simp only
 cases hh:allG f (xs.drop (i+1)) q.2 with
 | error c=>rfl
 | ok r=>simp
theorem all_end {α β:Type} {f:Nat → α → Except Nat (β × Nat)} {xs:List α} {R:Except Nat (List β × Nat)} {i m:Nat} {acc:List β} (h:AllI f xs R i m acc) (hi:xs.length ≤ i):R = .ok (acc,m):=by
 unfold AllI at h
 rw [h,List.drop_of_length_le hi,allG]
 simp
theorem readU_cnt:∀ (d n:Nat) (s:List UInt8) (q:PT × Nat),readU d n s = .ok q → n ≤ 40 → q.2 ≤ 40:=by
 intro d
 induction d with
 | zero=>intro n s q h; cases h
 | succ d ih =>
  intro n s q h hn
  unfold readU at h
  split at h
  ·cases h
  ·have hall:∀ (xs:List (List UInt8)) (n:Nat) (r:List PT × Nat),allG (readU d) xs n = .ok r → n ≤ 40 → r.2 ≤ 40:=by
    intro xs
    induction xs with
    | nil=>intro n r h hn; simp only [allG,Except.ok.injEq] at h; subst h; exact hn
    | cons x xs ihx =>
     intro n r h hn
     unfold allG at h
     cases h1:readU d n x with
     | error c=>rw [h1] at h; cases h
     | ok q1 =>
      rw [h1] at h
      simp only at h
      cases h2:allG (readU d) xs q1.2 with
      | error c=>rw [h2] at h; cases h
      | ok q2 =>
       rw [h2] at h
       simp only [Except.ok.injEq] at h
       subst h
       exact ihx q1.2 q2 h2 (ih _ _ _ h1 hn)
   cases h1:headR s with
   | error c=>rw [h1] at h; cases h
   | ok hh =>
    rw [h1] at h
    simp only at h
    cases h2:maniesS hh.1 with
    | error c=>rw [h2] at h; cases h
    | ok o =>
     rw [h2] at h
     cases o with
     | none =>
      simp only at h
      cases h3:decodeU hh.1 hh.2 with
      | error c=>rw [h3] at h; cases h
      | ok b=>rw [h3] at h; simp only [Except.ok.injEq] at h; subst h; show n+1 ≤ 40; omega
     | some b =>
      simp only at h
      cases h3:betweenS b hh.2 with
      | none=>rw [h3] at h; cases h
      | some xs =>
       rw [h3] at h
       simp only at h
       cases h4:allG (readU d) xs (n+1) with
       | error c=>rw [h4] at h; cases h
       | ok r =>
        rw [h4] at h
        simp only [Except.ok.injEq] at h
        subst h
        exact hall _ _ _ h4 (by omega)
theorem ownP_mono {w:World} {B C:Nat} {v:Value} {L:List P4} (h:OwnP w C v L) (hB:B ≤ C):OwnP w B v L:=by
 obtain ⟨h1,h2⟩:=h
 refine ⟨h1,?_⟩
 rcases h2 with h2 | ⟨g,cap,cur,a,b,c⟩
 ·exact .inl h2
 ·exact .inr ⟨g,cap,cur,a,Nat.le_trans hB b,c⟩
def RdAt (d:Nat):Prop:=∀ (s:ByteArray) (n bc k:Nat) (w:World),s.size ≤ 20000 → n ≤ 40 → k+d = 4 → CI w bc n → Glob w → GB bc →
  Calls Tryz.prog 34 #[.pointer (some ⟨bc,0,none⟩),.string s,.int .i64 k] w fun e w'=>RdPost (readU d n s.data.toList) d bc w.heap.size e w'∧w.grownBy w' (some bc)
def RpPost (O:Option (List (List UInt8))) (d n bc B:Nat) (e:Ending) (w':World):Prop:=
 match O with
 | none=>e = .returned (.tuple #[.slice none 0 0,.iface 30 (.int .i64 3)])
 | some xs=>match allG (readU d) xs n with
  | .error c=>e = .returned (.tuple #[.slice none 0 0,.iface 30 (.int .i64 c)])
  | .ok r=>∃ v L,e = .returned (.tuple #[v,.nilIface])∧OwnP w' B v L∧PVL w' (fun i=>B ≤ i) d L r.1∧CI w' bc r.2∧L.length ≤ 100001
theorem OwnS.kept {w w':World} {B bc:Nat} {v:Value} {l:List ByteArray} (h:OwnS w B v l) (hg:w.grownBy w' (some bc)) (hb:bc < B):OwnS w' B v l:=by
 refine World.ownsRow.kept h hg (.inr fun e=>?_)
 have:=(h.lt bc e).1
 omega
set_option maxHeartbeats 2000000 in
set_option maxRecDepth 100000 in
theorem preadParts_any (d:Nat) (ih:RdAt d) (s b:ByteArray) (n bc k:Nat) (w:World) (hs:s.size ≤ 20000) (hbs:b.size ≤ 100000) (hn:n ≤ 40) (hk:k+d = 4) (hc:CI w bc n) (hG:Glob w) (hbc:GB bc) :
  Calls Tryz.prog 74 #[.pointer (some ⟨bc,0,none⟩),.string s,.string b,.int .i64 k] w fun e w'=>RpPost (betweenS b.data.toList s.data.toList) d n bc w.heap.size e w'∧w.grownBy w' (some bc):=by
 obtain ⟨O,HO⟩:∃ O,Box (O = betweenS b.data.toList s.data.toList):=⟨_,⟨rfl⟩⟩
 rw [← HO.out]
 have HG:=Box.mk hG
 have HC:=Box.mk hc
 have IH:=Box.mk ih
 have hbl:=hc.lt
 clear hG hc ih
 go_enter Tryz.func74,Tryz.ntmps74
 go_wp2_with fail
 refine (pcut_any s b _ (by omega) hbs HG.out.mx).mono ?_
 rintro e w1 ⟨hP,hb1⟩
 rw [← HO.out] at hP
 unfold CPost at hP
 have hbl1:=Nat.lt_of_lt_of_le hbl hb1.size
 cases O with
 | none =>
  obtain rfl:=hP
  clear HG HC IH HO
  go_wp2
  go_ret2
  exact ⟨rfl,gr_below hb1 _⟩
 | some xs =>
  obtain ⟨v,ss,rfl,hown,hss,hlen⟩:=hP
  have HL:Box (∀ x ∈ ss,x.size ≤ 20000):=⟨fun x hx=>by
   have:=between_len _ _ _ HO.out.symm (lst x) (by rw [← hss]; exact List.mem_map_of_mem hx)
   unfold lst at this
   rw [size_list,size_list] at this
   omega⟩
  obtain ⟨R,HR⟩:∃ R,Box (R = allG (readU d) xs n):=⟨_,⟨rfl⟩⟩
  have HA:Box (AllI (readU d) (ss.map lst) R 0 n []):=⟨by rw [HR.out,hss]; exact all_start _ _ _⟩
  have HG1:=Box.mk (HG.out.below hb1 (hbc.mono (by omega)))
  have HC1:=Box.mk (HC.out.below hb1 hbl)
  have HS:=Box.mk hss
  clear hss HG HC HO
  obtain ⟨A,m,cap,hv⟩:∃ A m cap,v = .slice A m cap:=by
   rcases hown.shape with ⟨rfl,_⟩ | ⟨g,cap,rfl,_⟩
   ·exact ⟨_,_,_,rfl⟩
   ·exact ⟨_,_,_,rfl⟩
  subst hv
  have hm:m = ss.length:=by
   rcases hown.shape with ⟨h1,h2⟩ | ⟨g,cap,h1,_⟩
   ·simp only [Value.slice.injEq] at h1; rw [h2]; exact h1.2.1
   ·simp only [Value.slice.injEq] at h1; exact h1.2.1
  have hm1:m ≤ ss.length:=Nat.le_of_eq hm
  have hm2:ss.length ≤ m:=Nat.le_of_eq hm.symm
  have HOwn:=Box.mk hown
  clear hm hown
  go_wp2
  go_loopw [12,28] (fun v i wr=>∃ (j c:Nat) (L:List P4) (acc:List PT),j ≤ m∧i = .int .i64 j∧L.length ≤ j∧c ≤ 40∧Box (OwnP wr w1.heap.size v L)∧Box (PVL wr (fun i=>w1.heap.size ≤ i∧some i ≠ v.ownBlock) d L acc)∧Box (CI wr bc c)∧w1.grownBy wr (some bc)∧Box (AllI (readU d) (ss.map lst) R j c acc)) (fun _ i _=>m - (intOf i).toNat)
  case atStart=>exact ⟨0,n,[],[],Nat.zero_le _,rfl,Nat.le_refl _,hn,⟨OwnP.nil _ _⟩,⟨PVL.nil _ _ _⟩,HC1,gr_below (Below.refl _ _) _,HA⟩
  case round =>
   obtain ⟨j,c,L,acc,hj,rfl,hLj,hc40,hP,hV,hC,hg,HI⟩:=hrel
   have hsz:=hg.size
   by_cases hlt:j < m
   ·have hjl:j < ss.length:=by omega
    obtain ⟨x,HXk⟩:∃ x,Box (ss[j]? = some x):=⟨_,⟨List.getElem?_eq_getElem hjl⟩⟩
    have HXl:Box ((ss.map lst)[j]? = some x.data.toList):=⟨by rw [List.getElem?_map,HXk.out]; rfl⟩
    have hxs:=HL.out x (List.mem_of_getElem? HXk.out)
    have hownr:=HOwn.out.kept hg hbl
    obtain ⟨g,rfl,hcell⟩:∃ g,A = some ⟨g,0,none⟩∧wr.cell? ⟨g,j,none⟩ = some (.string x):=by
     rcases hownr.shape with ⟨_,h2⟩ | ⟨g,cap',h1,_,_,_,_,h5⟩
     ·rw [h2] at hjl; exact absurd hjl (by simp)
     ·simp only [Value.slice.injEq] at h1
      refine ⟨g,h1.1,?_⟩
      rw [h5 j hjl]
      have:=HXk.out
      rw [List.getElem?_eq_getElem hjl] at this
      rw [Option.some.inj this]
    have HGr:=Box.mk (HG1.out.gr hg hbc hbl1)
    clear hownr HXk hjl
    go_wp2_with fail
    refine (IH.out x c bc k _ hxs hc40 hk hC.out HGr.out hbc).mono ?_
    rintro e w2 ⟨hR2,hg2⟩
    have hg02:=gr_trans hg hg2
    have hsz2:=hg2.size
    unfold RdPost at hR2
    cases hq:readU d c x.data.toList with
    | error z =>
     rw [hq] at hR2
     obtain rfl:=hR2
     have HE:=Box.mk (all_err HI.out _ HXl.out z hq)
     clear HI hq HXl hP hV hC IH HL HOwn HS HA HG1 HC1 HGr
     go_wp2
     go_ret2
     refine ⟨?_,gr_trans (gr_below hb1 _) (gr_alloc hg02 _)⟩
     unfold RpPost
     simp only
     rw [← HR.out,HE.out]
     rfl
    | ok q =>
     rw [hq] at hR2
     obtain ⟨p4,rfl,hPV,hC2⟩:=hR2
     have HI':=Box.mk (all_ok HI.out _ HXl.out q hq)
     have hq40:=readU_cnt d c _ q hq hc40
     obtain ⟨A1,n1,c1,bb,mm,A2,n2,c2,rfl⟩:=hPV.shape
     have HPV:Box (PV w2 (fun i=>w1.heap.size ≤ i∧some i ≠ Value.ownBlock u12) d (.slice A1 n1 c1,.string bb,.bool mm,.slice A2 n2 c2) q.1):=⟨PV.mono (fun i _ hi=>⟨Nat.le_trans hsz hi,fun e=>by have:=(hP.out.lt i e.symm).2; omega⟩) _ _ _ hPV⟩
     have HC2:=Box.mk hC2
     have HP2:=Box.mk (hP.out.abv (abv_gr hg2 (fun i hi e=>by simp at e; omega)))
     have HV2:=Box.mk (hV.out.abv (abv_gr hg2 (fun i hi e=>by simp at e; omega)))
     clear HI hq HXl hP hV hC hPV hC2 hcell HGr
     unfold P4.v
     go_wp2_with (at_builtin; refine wp_appP _ rfl (.tmp 42) (.tmp 44) rfl w1.heap.size _ L rfl (OwnP.abv HP2.out (abv_below (((Below.refl _ _).alloc (Nat.le_refl _) _).alloc (by simp) _))) _ _ (.slice A1 n1 c1,.string bb,.bool mm,.slice A2 n2 c2) rfl (by simp) (by simp) (by simp) (by simp) ⟨rfl,rfl,rfl,rfl⟩ (by omega) (by simp; omega) ?_; intro v3 w3 hown3 hg3 hv3)
     go_roundw
     case rel =>
      have hab:Abv (fun i=>w1.heap.size ≤ i∧some i ≠ Value.ownBlock u12) w2 w3:=fun i hi hl=>(hg3.block i (by simp; omega) hi.2).trans (((Below.refl w2.heap.size w2).alloc (Nat.le_refl _) _ |>.alloc (by simp) _).block i hl)
      refine ⟨j+1,q.2,L++[_],acc++[q.1],by omega,by go_num,by simp; omega,hq40,⟨hown3⟩,⟨?_⟩,⟨?_⟩,?_,HI'⟩
      ·refine ((HV2.out.snoc _ _ HPV.out).mono (T:=fun i=>(w1.heap.size ≤ i∧some i ≠ Value.ownBlock u12)∧i < w2.heap.size) (fun i h1 h2=>⟨h2,h1⟩) |>.abv (fun i hi=>hab i hi.1)).mono ?_
       rintro i _ ⟨⟨h1,h2⟩,h3⟩
       refine ⟨h1,fun e=>?_⟩
       rcases hv3 with hv3 | hv3
       ·exact h2 (e.trans hv3)
       ·rw [hv3] at e; simp at e; omega
      ·exact (HC2.out.below (below_twoP w2 _ _) HC2.out.lt).own hg3 (fun e=>by have:=(HP2.out.lt bc e.symm).1; omega)
      ·exact gr_own (gr_trans hg02 (gr_below (below_twoP w2 _ _) _)) hg3 (fun i e=>(HP2.out.lt i e).1)
     case measure=>simp [intOf]; omega
   ·have HE:=Box.mk (all_end HI.out (by rw [List.length_map]; omega))
    clear HI IH HL HOwn HS HA HG1 HC1
    go_wp2
    go_ret2
    refine ⟨?_,gr_trans (gr_below hb1 _) hg⟩
    unfold RpPost
    simp only
    rw [← HR.out,HE.out]
    exact ⟨_,L,rfl,ownP_mono hP.out hb1.size,hV.out.mono (fun i _ hi=>Nat.le_trans hb1.size hi.1),hC.out,by omega⟩
end Go.Proofs.YtknhacbfddggpaaGreatDoor
namespace Go.Proofs.YtknhacbfddggpaaGreatDoor
open Go.RowKit
set_option maxHeartbeats 2000000 in
set_option maxRecDepth 100000 in
theorem pread_no (d:Nat) (s:ByteArray) (n bc k:Nat) (w:World) (hn:n ≤ 1000000) (hk:k ≤ 1000000) (hx:40 ≤ n ∨ 4 ≤ k) (hc:CI w bc n) :
  Calls Tryz.prog 34 #[.pointer (some ⟨bc,0,none⟩),.string s,.int .i64 k] w fun e w'=>RdPost (.error 4) d bc w.heap.size e w'∧w.grownBy w' (some bc):=by
 have hb0:=below_oneP w zeroO
 have HC:=Box.mk (hc.below hb0 hc.lt)
 clear hc
 go_enter Tryz.func34,Tryz.ntmps34
 go_wp2_with fail
 refine (begin_no bc n k _ HC.out hn hk hx).mono ?_
 rintro e w1 ⟨rfl,hw1⟩
 obtain rfl:=hw1.symm
 obtain ⟨x0,x1,x2,x3,xf⟩:=b4_of (heap_oneP w zeroO)
 go_wp2
 refine bodyPost_ret (v:=.tuple #[zeroP,.iface 30 (.int .i64 4)]) (by simp [results,Tryz.results34,go_sem,x0,x1,x2,x3]) rfl ⟨rfl,?_⟩
 exact gr_below hb0 _
set_option maxHeartbeats 2000000 in
set_option maxRecDepth 100000 in
theorem pread_step (d:Nat) (ih:RdAt d):RdAt (d+1):=by
 intro s n bc k w hs hn hk hc hG hbc
 by_cases h40:40 ≤ n
 ·have e:readU (d+1) n s.data.toList = .error 4:=by rw [readU,if_pos h40]
  rw [e]
  exact pread_no _ s n bc k w (by omega) (by omega) (.inl h40) hc
 have hb0:=below_oneP w zeroO
 have hbl:=hc.lt
 have HC:=Box.mk (hc.below hb0 hc.lt)
 have HG:=Box.mk (hG.below hb0 (hbc.mono (by omega)))
 have IH:=Box.mk ih
 obtain ⟨O,HO⟩:∃ O,Box (O = readU (d+1) n s.data.toList):=⟨_,⟨rfl⟩⟩
 rw [← HO.out]
 have HO1:Box (O = match headR s.data.toList with
  | .error e=>.error e
  | .ok h=>match maniesS h.1 with
   | .error e=>.error e
   | .ok none=>match decodeU h.1 h.2 with
    | .error e=>.error e
    | .ok b=>.ok (.mk h.1 b false [],n+1)
   | .ok (some b)=>match betweenS b h.2 with
    | none=>.error 3
    | some xs=>match allG (readU d) xs (n+1) with
     | .error e=>.error e
     | .ok r=>.ok (.mk h.1 [] true r.1,r.2)):=⟨by rw [HO.out,readU,if_neg h40]; rfl⟩
 clear hc hG ih HO
 go_enter Tryz.func34,Tryz.ntmps34
 go_wp2_with fail
 refine (begin_yes bc n k _ HC.out h40 (by omega)).mono ?_
 rintro e w1 ⟨rfl,hC1,hg1⟩
 have hg01:=gr_trans (gr_below hb0 (some bc)) hg1
 have hsz1:=hg1.size
 rw [size_oneP] at hsz1
 have hk1:w1.heap[w.heap.size]? = some zeroO:=(hg1.block w.heap.size (by simp) (by simp; omega)).trans (heap_oneP w zeroO)
 have HC1:=Box.mk hC1
 have HG1:=Box.mk (HG.out.gr hg1 hbc (by simp; omega))
 clear HC HG hC1 hg1
 go_wp2_with fail
 refine (preadHead_any s _ (by omega) HG1.out.mx HG1.out.et).mono ?_
 rintro e w2 ⟨hP,hb2⟩
 have hg02:=gr_trans hg01 (gr_below hb2 _)
 have hsz2:=hb2.size
 have hk2:w2.heap[w.heap.size]? = some zeroO:=(hb2.block w.heap.size (by omega)).trans hk1
 have HC2:=Box.mk (HC1.out.below hb2 (by omega))
 have HG2:=Box.mk (HG1.out.below hb2 (hbc.mono (by omega)))
 clear HC1 HG1 hk1 hg01
 unfold HPost at hP
 cases hh:headR s.data.toList with
 | error c =>
  rw [hh] at hP
  obtain rfl:=hP
  have HO2:Box (O = .error c):=⟨by rw [HO1.out,hh]⟩
  clear HO1 hh
  obtain ⟨x0,x1,x2,x3,xf⟩:=b4_of hk2
  go_wp2
  refine bodyPost_ret (v:=.tuple #[zeroP,.iface 30 (.int .i64 c)]) (by simp [results,Tryz.results34,go_sem,x0,x1,x2,x3]) rfl ⟨by rw [HO2.out]; rfl,?_⟩
  iterate 4 (refine gr_new ?_ (Nat.le_refl _) _)
  exact hg02
 | ok hd =>
  rw [hh] at hP
  obtain ⟨v,rr,lh,rfl,hown,hlh,hrr⟩:=hP
  have hlen:=headR_len _ _ hh
  have hHalf:=half_of s.data.toList (by rw [size_list]; omega) hd.1 ⟨hlen.1,hlen.2.1⟩ lh hlh
  have hrs:rr.size ≤ 20000:=by have:=hlen.2.2; rw [← hrr,size_list,size_list] at this; omega
  obtain ⟨L0,r0⟩:=hd
  simp only at hlh hrr
  subst hlh
  subst hrr
  have HO2:Box (O = match maniesS (lh.map fl2) with
   | .error e=>.error e
   | .ok none=>match decodeU (lh.map fl2) rr.data.toList with
    | .error e=>.error e
    | .ok b=>.ok (.mk (lh.map fl2) b false [],n+1)
   | .ok (some b)=>match betweenS b rr.data.toList with
    | none=>.error 3
    | some xs=>match allG (readU d) xs (n+1) with
     | .error e=>.error e
     | .ok r=>.ok (.mk (lh.map fl2) [] true r.1,r.2)):=⟨by rw [HO1.out,hh]⟩
  have HF:=Box.mk hown.flb
  have HH:=Box.mk hHalf
  clear HO1 hh hlen hHalf hown
  obtain ⟨A,m,cap,hv⟩:∃ A m cap,v = .slice A m cap:=by obtain ⟨A,cap,hv,_⟩:=HF.out; exact ⟨A,_,cap,hv⟩
  subst hv
  go_wp2_with fail
  refine (pedge_any _ lh _ HH.out HF.out.fl HG2.out.mx HG2.out.nm).mono ?_
  rintro e w3 ⟨hE,hb3⟩
  have hg03:=gr_trans hg02 (gr_below hb3 _)
  have hsz3:=hb3.size
  have hk3:w3.heap[w.heap.size]? = some zeroO:=(hb3.block w.heap.size (by omega)).trans hk2
  have HC3:=Box.mk (HC2.out.below hb3 (by omega))
  have HG3:=Box.mk (HG2.out.below hb3 (hbc.mono (by omega)))
  have HF3:=Box.mk (HF.out.abv (abv_below hb3))
  clear HC2 HG2 hk2 hg02 HF
  unfold EPost at hE
  cases hm:maniesS (lh.map fl2) with
  | error c =>
   rw [hm] at hE
   obtain rfl:=hE
   have HO3:Box (O = .error c):=⟨by rw [HO2.out,hm]⟩
   clear HO2 hm
   obtain ⟨x0,x1,x2,x3,xf⟩:=b4_of hk3
   go_wp2
   refine bodyPost_ret (v:=.tuple #[zeroP,.iface 30 (.int .i64 c)]) (by simp [results,Tryz.results34,go_sem,x0,x1,x2,x3]) rfl ⟨by rw [HO3.out]; rfl,?_⟩
   iterate 4 (refine gr_new ?_ (Nat.le_refl _) _)
   exact hg03
  | ok o =>
   rw [hm] at hE
   cases o with
   | none =>
    simp only at hE
    obtain rfl:=hE
    have HO3:Box (O = match decodeU (lh.map fl2) rr.data.toList with
     | .error e=>.error e
     | .ok b=>.ok (.mk (lh.map fl2) b false [],n+1)):=⟨by rw [HO2.out,hm]⟩
    clear HO2 hm
    go_wp2_with fail
    refine (preadBody_any _ lh rr _ hrs HH.out HF3.out.fl HG3.out.mx HG3.out.nm).mono ?_
    rintro e w4 ⟨hB,hb4⟩
    have hg04:=gr_trans hg03 (gr_below hb4 _)
    have hsz4:=hb4.size
    have hk4:w4.heap[w.heap.size]? = some zeroO:=(hb4.block w.heap.size (by omega)).trans hk3
    have HC4:=Box.mk (HC3.out.below hb4 (by omega))
    have HF4:=Box.mk (HF3.out.abv (abv_below hb4))
    obtain ⟨x0,x1,x2,x3,xf⟩:=b4_of hk4
    clear HC3 HG3 hk3 hg03 HF3
    unfold BPost at hB
    cases hdd:decodeU (lh.map fl2) rr.data.toList with
    | error c =>
     rw [hdd] at hB
     obtain rfl:=hB
     have HO4:Box (O = .error c):=⟨by rw [HO3.out,hdd]⟩
     clear HO3 hdd
     go_wp2
     refine bodyPost_ret (v:=.tuple #[zeroP,.iface 30 (.int .i64 c)]) (by simp [results,Tryz.results34,go_sem,x0,x1,x2,x3]) rfl ⟨by rw [HO4.out]; rfl,?_⟩
     iterate 4 (refine gr_new ?_ (Nat.le_refl _) _)
     exact hg04
    | ok bd =>
     rw [hdd] at hB
     obtain rfl:=hB
     have HO4:Box (O = .ok (.mk (lh.map fl2) bd false [],n+1)):=⟨by rw [HO3.out,hdd]⟩
     clear HO3 hdd
     obtain ⟨bb,HB⟩:∃ bb:ByteArray,Box (bb = ⟨bd.toArray⟩):=⟨_,⟨rfl⟩⟩
     rw [← HB.out]
     go_wp2
     refine bodyPost_ret (v:=.tuple #[.agg #[.slice A m cap,.string bb,.bool false,.slice none 0 0],.nilIface]) (by simp [results,Tryz.results34,go_sem,x0,x1,x2,x3]) rfl ⟨?_,?_⟩
     ·rw [HO4.out]
      refine ⟨(.slice A m cap,.string bb,.bool false,.slice none 0 0),rfl,?_,?_⟩
      ·refine PV.mono (S:=fun i=>w.heap.size < i) (fun i _ hi=>Nat.le_of_lt hi) _ _ _ (PV.abv (w:=w4) ?_ (d+1) _ _ ⟨none,0,bb,lh,rfl,rfl,rfl,HF4.out.mono (fun i _ hi=>by show w.heap.size < i; have:w1.heap.size ≤ i:=hi; omega),rfl,HH.out,by rw [HB.out],Nat.le_refl _,by simp,fun k hk=>absurd hk (by simp)⟩)
       refine abv_gr (r:=some w.heap.size) ?_ (fun i hi e=>by simp at e; omega)
       iterate 4 (refine gr_trans ?_ (gr_set _ _ _ _))
       exact gr_below (Below.refl _ _) _
      ·refine HC4.out.own (r:=some w.heap.size) ?_ (by simp; omega)
       iterate 4 (refine gr_trans ?_ (gr_set _ _ _ _))
       exact gr_below (Below.refl _ _) _
     ·iterate 4 (refine gr_new ?_ (Nat.le_refl _) _)
      exact hg04
   | some be =>
    simp only at hE
    obtain ⟨bb,rfl,hbe,hne,hbs⟩:=hE
    have he:=nonempty_of bb hne
    have HO3:Box (O = match betweenS bb.data.toList rr.data.toList with
     | none=>.error 3
     | some xs=>match allG (readU d) xs (n+1) with
      | .error e=>.error e
      | .ok r=>.ok (.mk (lh.map fl2) [] true r.1,r.2)):=⟨by rw [HO2.out,hm,hbe]⟩
    clear HO2 hm hbe
    go_wp2_with fail
    refine (preadParts_any d IH.out rr bb (n+1) bc (k+1) _ hrs (by omega) (by omega) (by omega) HC3.out HG3.out hbc).mono ?_
    rintro e w4 ⟨hB,hg4⟩
    have hg04:=gr_trans hg03 hg4
    have hsz4:=hg4.size
    have hk4:w4.heap[w.heap.size]? = some zeroO:=(hg4.block w.heap.size (by omega) (by simp; omega)).trans hk3
    have HF4:=Box.mk (HF3.out.abv (abv_gr hg4 (fun i hi e=>by simp at e; omega)))
    obtain ⟨x0,x1,x2,x3,xf⟩:=b4_of hk4
    clear HC3 HG3 hk3 hg03 HF3
    unfold RpPost at hB
    cases hdd:betweenS bb.data.toList rr.data.toList with
    | none =>
     rw [hdd] at hB
     obtain rfl:=hB
     have HO4:Box (O = .error 3):=⟨by rw [HO3.out,hdd]⟩
     clear HO3 hdd
     go_wp2
     refine bodyPost_ret (v:=.tuple #[zeroP,.iface 30 (.int .i64 3)]) (by simp [results,Tryz.results34,go_sem,x0,x1,x2,x3]) rfl ⟨by rw [HO4.out]; rfl,?_⟩
     iterate 4 (refine gr_new ?_ (Nat.le_refl _) _)
     exact hg04
    | some xs =>
     rw [hdd] at hB
     simp only at hB
     have HO4:Box (O = match allG (readU d) xs (n+1) with
      | .error e=>.error e
      | .ok r=>.ok (.mk (lh.map fl2) [] true r.1,r.2)):=⟨by rw [HO3.out,hdd]⟩
     clear HO3 hdd
     cases hall:allG (readU d) xs (n+1) with
     | error c =>
      rw [hall] at hB
      obtain rfl:=hB
      have HO5:Box (O = .error c):=⟨by rw [HO4.out,hall]⟩
      clear HO4 hall
      go_wp2
      refine bodyPost_ret (v:=.tuple #[zeroP,.iface 30 (.int .i64 c)]) (by simp [results,Tryz.results34,go_sem,x0,x1,x2,x3]) rfl ⟨by rw [HO5.out]; rfl,?_⟩
      iterate 4 (refine gr_new ?_ (Nat.le_refl _) _)
      exact hg04
     | ok r =>
      rw [hall] at hB
      obtain ⟨vp,LP,rfl,hownP,hPVL,hC4,hLP⟩:=hB
      have HO5:Box (O = .ok (.mk (lh.map fl2) [] true r.1,r.2)):=⟨by rw [HO4.out,hall]⟩
      obtain ⟨A2,cap2,hvp,hcap2,hpc⟩:=hownP.pc
      have hblk:∀ i,some i = vp.ownBlock → w3.heap.size ≤ i:=fun i e=>(hownP.lt i e.symm).1
      have HP4:Box (PV w4 (fun i=>w.heap.size < i) (d+1) (.slice A m cap,.string ⟨#[]⟩,.bool true,.slice A2 LP.length cap2) (.mk (lh.map fl2) [] true r.1)):=⟨by
       have hl:LP.length = r.1.length:=hPVL.1
       refine ⟨A2,cap2,⟨#[]⟩,lh,rfl,rfl,by rw [hl],HF4.out.mono (fun i _ hi=>by show w.heap.size < i; have:w1.heap.size ≤ i:=hi; omega),rfl,HH.out,rfl,by omega,by omega,fun j hj=>⟨LP[j]'(by omega),(hpc j (by omega)).mono (fun i _ e=>by have:=hblk i e; omega),PV.mono (fun i _ hi=>by show w.heap.size < i; have:w3.heap.size ≤ i:=hi; omega) _ _ _ (hPVL.2 j (by omega) hj)⟩⟩⟩
      have HC4:=Box.mk hC4
      subst hvp
      clear HO4 hall hownP hPVL hpc hblk hC4
      go_wp2
      refine bodyPost_ret (v:=.tuple #[.agg #[.slice A m cap,.string ⟨#[]⟩,.bool true,.slice A2 LP.length cap2],.nilIface]) (by simp [results,Tryz.results34,go_sem,x0,x1,x2,x3]) rfl ⟨?_,?_⟩
      ·rw [HO5.out]
       refine ⟨(.slice A m cap,.string ⟨#[]⟩,.bool true,.slice A2 LP.length cap2),rfl,?_,?_⟩
       ·refine PV.mono (S:=fun i=>w.heap.size < i) (fun i _ hi=>Nat.le_of_lt hi) _ _ _ (PV.abv (w:=w4) ?_ (d+1) _ _ HP4.out)
        refine abv_gr (r:=some w.heap.size) ?_ (fun i hi e=>by simp at e; omega)
        iterate 4 (refine gr_trans ?_ (gr_set _ _ _ _))
        exact gr_below (Below.refl _ _) _
       ·refine HC4.out.own (r:=some w.heap.size) ?_ (by simp; omega)
        iterate 4 (refine gr_trans ?_ (gr_set _ _ _ _))
        exact gr_below (Below.refl _ _) _
      ·iterate 4 (refine gr_new ?_ (Nat.le_refl _) _)
       exact hg04
theorem pread_all:∀ d,RdAt d
 | 0=>fun s n bc k w hs hn hk hc hG hbc=>by
  have e:readU 0 n s.data.toList = .error 4:=rfl
  rw [e]
  exact pread_no _ s n bc k w (by omega) (by omega) (.inr (by omega)) hc
 | d+1=>pread_step d (pread_all d)
end Go.Proofs.YtknhacbfddggpaaGreatDoor
namespace Go.Proofs.YtknhacbfddggpaaGreatDoor
open Go.RowKit
theorem ci_of {w:World} {b n:Nat} {t:TypeId} (h:w.heap[b]? = some (.cells #[.int .i64 n] t (0,0))):CI w b n:=
 ⟨by simp [World.cell?,h],by simp [World.frozen?,h],(Array.getElem?_eq_some_iff.1 h).1⟩
def readTop (s:List UInt8):Except Nat PT:=if 20000 < s.length then .error 4 else match readU 4 0 s with | .error c=>.error c | .ok q=>.ok q.1
def RTPost (O:Except Nat PT) (B:Nat) (e:Ending) (w':World):Prop:=
 match O with
 | .error c=>e = .returned (.tuple #[zeroP,.iface 30 (.int .i64 c)])
 | .ok p=>∃ v:P4,e = .returned (.tuple #[v.v,.nilIface])∧PV w' (fun i=>B ≤ i) 4 v p
set_option maxHeartbeats 2000000 in
set_option maxRecDepth 100000 in
theorem pReadTop_any (s:ByteArray) (w:World) (hs:s.size ≤ 1000000) (hG:Glob w) :
  Calls Tryz.prog 14 #[.string s] w fun e w'=>RTPost (readTop s.data.toList) w.heap.size e w'∧Below w.heap.size w w':=by
 by_cases h2:20000 < s.size
 ·have e:readTop s.data.toList = .error 4:=by unfold readTop; rw [size_list,if_pos h2]
  rw [e]
  have hb0:=below_oneP w zeroO
  obtain ⟨x0,x1,x2,x3,xf⟩:=b4_of (heap_oneP w zeroO)
  clear hG e
  go_enter Tryz.func14,Tryz.ntmps14
  go_wp2
  refine bodyPost_ret (v:=.tuple #[zeroP,.iface 30 (.int .i64 4)]) (by simp [results,Tryz.results14,go_sem,x0,x1,x2,x3]) rfl ⟨rfl,?_⟩
  exact hb0
 ·have hb0:=below_oneP w zeroO
  have hb1:=(below_oneP (w.alloc zeroO) (.cells #[.int .i64 0] 83))
  have hC:CI ((w.alloc zeroO).alloc (.cells #[.int .i64 0] 83)) (w.heap.size+1) 0:=by
   have hh:=heap_oneP (w.alloc zeroO) (.cells #[.int .i64 0] 83)
   rw [size_oneP] at hh
   exact ci_of hh
  have HC:=Box.mk hC
  have hgb:=hG.gb
  have HG:=Box.mk ((hG.below hb0 hgb).below hb1 (hgb.mono (by simp)))
  have hk0:((w.alloc zeroO).alloc (.cells #[.int .i64 0] 83)).heap[w.heap.size]? = some zeroO:=(Below.heap_alloc (w.alloc zeroO) _ w.heap.size (by simp)).trans (heap_oneP w zeroO)
  obtain ⟨O,HO⟩:∃ O,Box (O = readTop s.data.toList):=⟨_,⟨rfl⟩⟩
  rw [← HO.out]
  have HO1:Box (O = match readU 4 0 s.data.toList with | .error c=>.error c | .ok q=>.ok q.1):=⟨by rw [HO.out]; unfold readTop; rw [size_list,if_neg h2]⟩
  clear hC hG HO
  go_enter Tryz.func14,Tryz.ntmps14
  go_wp2_with fail
  refine (pread_all 4 s 0 (w.heap.size+1) 0 _ (by omega) (by omega) (by omega) HC.out HG.out (hgb.mono (by omega))).mono ?_
  rintro e w1 ⟨hR,hg1⟩
  have hsz1:=hg1.size
  have hbb:Below w.heap.size w w1:=hb0.trans ((hb1.mono (by simp)).trans (below_gr hg1 (by omega) (by simp)))
  obtain ⟨x0,x1,x2,x3,xf⟩:=b4_of ((hg1.block w.heap.size (by simp; omega) (by simp)).trans hk0)
  clear HC HG hk0 hb1
  unfold RdPost at hR
  cases hq:readU 4 0 s.data.toList with
  | error c =>
   rw [hq] at hR
   obtain rfl:=hR
   have HO2:Box (O = .error c):=⟨by rw [HO1.out,hq]⟩
   clear HO1 hq
   go_wp2
   refine bodyPost_ret (v:=.tuple #[zeroP,.iface 30 (.int .i64 c)]) (by simp [results,Tryz.results14,go_sem,x0,x1,x2,x3]) rfl ⟨by rw [HO2.out]; rfl,?_⟩
   iterate 4 (refine Below.setCell ?_ (by simp) _)
   exact hbb
  | ok q =>
   rw [hq] at hR
   obtain ⟨p4,rfl,hPV,_⟩:=hR
   have HO2:Box (O = .ok q.1):=⟨by rw [HO1.out,hq]⟩
   obtain ⟨A1,n1,c1,bb,mm,A2,n2,c2,rfl⟩:=hPV.shape
   have HPV:=Box.mk hPV
   clear HO1 hq hPV
   unfold P4.v
   go_wp2
   refine bodyPost_ret (v:=.tuple #[.agg #[.slice A1 n1 c1,.string bb,.bool mm,.slice A2 n2 c2],.nilIface]) (by simp [results,Tryz.results14,go_sem,x0,x1,x2,x3]) rfl ⟨?_,?_⟩
   ·rw [HO2.out]
    refine ⟨(.slice A1 n1 c1,.string bb,.bool mm,.slice A2 n2 c2),rfl,?_⟩
    refine PV.mono (S:=fun i=>w.heap.size < i) (fun i _ hi=>Nat.le_of_lt hi) _ _ _ (PV.abv (w:=w1) ?_ 4 _ _ (PV.mono (fun i _ hi=>?_) _ _ _ HPV.out))
    ·refine abv_gr (r:=some w.heap.size) ?_ (fun i hi e=>by simp at e; omega)
     iterate 4 (refine gr_trans ?_ (gr_set _ _ _ _))
     exact gr_below (Below.refl _ _) _
    ·have:((w.alloc zeroO).alloc (.cells #[.int .i64 0] 83)).heap.size ≤ i:=hi
     simp at this
     show w.heap.size < i
     omega
   ·iterate 4 (refine Below.setCell ?_ (by simp) _)
    exact hbb
end Go.Proofs.YtknhacbfddggpaaGreatDoor
