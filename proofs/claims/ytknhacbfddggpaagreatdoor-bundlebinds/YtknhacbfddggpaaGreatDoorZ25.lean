import Derived.Test.YtknhacbfddggpaaGreatDoorZ24
import Derived.Test.YtknhacbfddggpaaGreatDoorZ2
import Derived.Lib.Replace
namespace Go.Proofs.YtknhacbfddggpaaGreatDoor
open Go.RowKit
def comesR (x:Nat):Bool:=decide (x ≠ 9) && (decide (x < 32) || decide (126 < x))
def asC (c:UInt8):Bool:=!comesR c.toNat
theorem asC_in:asC = fun c=>inC c || c == 9:=by
 funext c
 have key:∀ n:Fin 256,asC (UInt8.ofNat n.val) = (inC (UInt8.ofNat n.val) || UInt8.ofNat n.val == 9):=by decide +kernel
 have:=key ⟨c.toNat,c.toNat_lt⟩
 simpa using this
theorem idxg_from (p:Nat → Bool) (hp:∀ x,128 ≤ x → p x = true) (s:ByteArray):∀ f k:Nat,s.size ≤ k+f → k ≤ s.size → (s.data.toList.take k).all (fun c=>!p c.toNat) = true →
  decide (0 ≤ Lib.idxFuncFrom p true s f k) = !(s.data.toList.all fun c=>!p c.toNat):=by
 intro f
 induction f with
 | zero =>
  intro k hf hk ha
  have hks:¬ k < s.size:=by omega
  rw [List.take_of_length_le (by rw [size_list]; omega)] at ha
  rw [Lib.idxFuncFrom_end _ _ _ _ _ hks,ha]; rfl
 | succ f ih =>
  intro k hf hk ha
  by_cases hks:k < s.size
  ·cases hw:p s[k].toNat
   ·have hlow:s[k].toNat < 128:=by
     by_cases h:s[k].toNat < 128
     ·exact h
     ·rw [hp _ (by omega)] at hw; cases hw
    unfold Lib.idxFuncFrom
    rw [if_pos hks,decode_low s k hks hlow]
    simp only
    rw [if_neg (by rw [hw]; decide)]
    exact ih (k+1) (by omega) (by omega) (all_on (p:=fun c=>!p c.toNat) s k hks ha (by rw [hw]; rfl))
   ·have hd:p (Utf8.decode s k).1 = true:=by
     by_cases hlow:s[k].toNat < 128
     ·rw [decode_low s k hks hlow]; exact hw
     ·exact hp _ (decode_high s k hks hlow)
    have hall:(s.data.toList.all fun c=>!p c.toNat) = false:=by
     rw [← Bool.not_eq_true,List.all_eq_true]
     intro h
     have hk':k < s.data.toList.length:=by rw [size_list]; exact hks
     have:=h s.data.toList[k] (List.getElem_mem hk')
     have e:s.data.toList[k] = s[k]:=rfl
     rw [e,hw] at this
     cases this
    unfold Lib.idxFuncFrom
    rw [if_pos hks,if_pos hd,hall]
    simp
  ·rw [List.take_of_length_le (by rw [size_list]; omega)] at ha
   rw [Lib.idxFuncFrom_end _ _ _ _ _ hks,ha]; rfl
theorem idxg (p:Nat → Bool) (hp:∀ x,128 ≤ x → p x = true) (s:ByteArray):decide (0 ≤ Lib.idxFunc p true s) = !(s.data.toList.all fun c=>!p c.toNat):=
 idxg_from p hp s s.size 0 (by omega) (Nat.zero_le _) rfl
theorem replaceK_split:∀ (f:Nat) (l:List UInt8),l.length < f → Lib.replaceK [13,10] [] (Lib.count l [13,10]) l = (splitC l).flatten
 | 0,l,h=>by omega
 | f+1,l,h=>by
  rcases Lib.index_spec l [13,10] with ⟨h1,_⟩ | ⟨i,h1,hi,_⟩
  ·rw [Lib.count_miss h1,(split_idx l).1 h1]
   simp [Lib.replaceK]
  ·have hr:=Lib.index_room l [13,10] (by omega)
   rw [h1] at hr
   simp at hr
   rw [Lib.count_hit (by simp) h1,Nat.add_comm,Lib.replaceK_hit _ _ _ _ i h1,(split_idx l).2 i h1]
   simp only [List.length_cons,List.length_nil]
   rw [replaceK_split f (l.drop (i+2)) (by rw [List.length_drop]; omega)]
   simp
theorem replace_split (l:List UInt8):Lib.replaceAll l [13,10] [] = (splitC l).flatten:=by
 unfold Lib.replaceAll Lib.replace
 rw [if_neg (by decide)]
 unfold Lib.replaceNum
 rw [if_pos (by left; omega)]
 exact replaceK_split _ l (Nat.lt_succ_self _)
theorem asIs_split:∀ l:List UInt8,asIsS l = (splitC l).flatten.all asC
 | []=>rfl
 | [c]=>by
  rw [asC_in]
  simp [asIsS,splitC]
 | c :: d :: t=>by
  unfold asIsS
  by_cases h:c = 13∧d = 10
  ·rw [if_pos h,h.1,h.2,splitC_cut,asIs_split t]; rfl
  ·rw [if_neg h,splitC_char c d t h,asIs_split (d :: t)]
   have e:(consHead c (splitC (d :: t))).flatten = c :: (splitC (d :: t)).flatten:=by
    have:=splitC_ne (d :: t)
    cases hs:splitC (d :: t) with
    | nil=>exact absurd hs this
    | cons x r=>rfl
   rw [e,List.all_cons,asC_in]
theorem comes1_calls (args:Array Value) (w:World):(callFunc 191 args).run Tryz.prog w = .ok (.enter 191 args) w:=by simp [go_sem]
set_option maxHeartbeats 1000000 in
theorem comes1_any (x:Nat) (w:World) (hx:x ≤ 1114111) :
  Calls Tryz.prog 191 #[.int .i32 (x:Int)] w fun e w'=>e = .returned (.bool (comesR x))∧w' = w:=by
 obtain ⟨R,HR⟩:∃ R,Box (R = comesR x):=⟨_,⟨rfl⟩⟩
 rw [← HR.out]
 by_cases h9:x = 9
 ·subst h9
  have HE:Box (R = false):=⟨HR.out⟩
  clear HR
  go_enter Tryz.func191,Tryz.ntmps191
  go_wp2
  go_ret
  exact ⟨by rw [HE.out]; rfl,rfl⟩
 ·have h9':((x:Int) != 9) = true:=by rw [bne_iff_ne]; omega
  by_cases h1:x < 32
  ·have HE:Box (R = true):=⟨by rw [HR.out,comesR,decide_eq_true h9,decide_eq_true h1]; rfl⟩
   clear HR
   go_enter Tryz.func191,Tryz.ntmps191
   go_wp2
   go_ret
   exact ⟨by rw [HE.out]; first | rfl | (show Ending.returned (Value.bool ((x:Int) != 9)) = _; rw [h9']),rfl⟩
  ·have d1:decide ((x:Int) < 32) = false:=by rw [decide_eq_false_iff_not]; omega
   by_cases h2:126 < x
   ·have HE:Box (R = true):=⟨by rw [HR.out,comesR,decide_eq_true h9,decide_eq_true h2]; simp⟩
    have d2:decide (126 < (x:Int)) = true:=by rw [decide_eq_true_eq]; omega
    clear HR
    go_enter Tryz.func191,Tryz.ntmps191
    go_wp2
    go_ret
    exact ⟨by rw [HE.out]; first | rfl | (show Ending.returned (Value.bool ((x:Int) != 9 && (decide ((x:Int) < 32) || decide (126 < (x:Int))))) = _; rw [h9',d1,d2]; rfl),rfl⟩
   ·have HE:Box (R = false):=⟨by rw [HR.out,comesR,decide_eq_false h1,decide_eq_false h2]; simp⟩
    have d2:decide (126 < (x:Int)) = false:=by rw [decide_eq_false_iff_not]; omega
    clear HR
    go_enter Tryz.func191,Tryz.ntmps191
    go_wp2
    go_ret
    exact ⟨by rw [HE.out]; first | rfl | (show Ending.returned (Value.bool ((x:Int) != 9 && (decide ((x:Int) < 32) || decide (126 < (x:Int))))) = _; rw [h9',d1,d2]; rfl),rfl⟩
theorem pred_comes (w:World):PredGrows Tryz.prog 191 #[] comesR w:=by
 intro W x hx hb
 refine (comes1_any x W hx).mono ?_
 rintro e w' ⟨rfl,rfl⟩
 exact ⟨rfl,Below.refl _ _⟩
set_option maxHeartbeats 1000000 in
theorem containsF_any (s:ByteArray) (w:World) :
  Calls Tryz.prog 190 #[.string s,.func (.func 191) #[] #[]] w fun e w'=>e = .returned (.bool (!(s.data.toList.all asC)))∧Below w.heap.size w w':=by
 have hi:=idxf_any 191 #[] comes1_calls comesR s w (pred_comes w)
 have HD:=Box.mk (idxg comesR (fun x hx=>by unfold comesR; rw [decide_eq_true (by omega),decide_eq_true (show 126 < x by omega)]; simp) s)
 obtain ⟨z,hz⟩:∃ z,z = Lib.idxFunc comesR true s:=⟨_,rfl⟩
 rw [← hz] at hi HD
 clear hz
 obtain ⟨R,HR⟩:∃ R,Box (R = !(s.data.toList.all asC)):=⟨_,⟨rfl⟩⟩
 rw [← HR.out]
 have HE:Box (R = decide (0 ≤ z)):=⟨by rw [HR.out,HD.out]; rfl⟩
 clear HR HD
 go_enter Tryz.func190,Tryz.ntmps190
 go_wp2_with (go_at_call 139; refine hi.mono ?_; rintro e w' ⟨rfl,hb⟩)
 go_ret
 exact ⟨by rw [HE.out]; rfl,hb⟩
set_option maxHeartbeats 1000000 in
theorem comes_any (s:ByteArray) (w:World) (hs:s.size ≤ 100000) (hm:Max w) :
  Calls Tryz.prog 148 #[.string s] w fun e w'=>e = .returned (.bool (asIsS s.data.toList))∧Below w.heap.size w w':=by
 obtain ⟨_,m,hmc⟩:=hm
 have hrep:=Tryz.strings_ReplaceAll s ⟨#[13,10]⟩ ⟨#[]⟩ m w (by omega) hmc (by decide) (by rw [show (⟨#[]⟩:ByteArray).size = 0 from rfl]; omega)
 rw [show (⟨#[13,10]⟩:ByteArray).data.toList = [13,10] from rfl,show (⟨#[]⟩:ByteArray).data.toList = [] from rfl,replace_split] at hrep
 obtain ⟨t,HT⟩:∃ t:ByteArray,Box (t = ⟨((splitC s.data.toList).flatten).toArray⟩):=⟨_,⟨rfl⟩⟩
 rw [← HT.out] at hrep
 obtain ⟨R,HR⟩:∃ R,Box (R = t.data.toList.all asC):=⟨_,⟨rfl⟩⟩
 have HA:Box (asIsS s.data.toList = R):=⟨by rw [asIs_split,HR.out,HT.out]⟩
 rw [HA.out]
 clear HA HT hmc
 go_enter Tryz.func148,Tryz.ntmps148
 go_wp2_with fail
 refine hrep.mono ?_
 rintro e w1 ⟨rfl,hb1⟩
 go_wp2_with fail
 refine (containsF_any t _).mono ?_
 rintro e w2 ⟨rfl,hb2⟩
 rw [← HR.out]
 go_wp2
 go_ret
 exact ⟨by first | rfl | (show Ending.returned (Value.bool (!(!R))) = _; rw [Bool.not_not]),hb1.trans (hb2.mono hb1.size)⟩
end Go.Proofs.YtknhacbfddggpaaGreatDoor
namespace Go.Proofs.YtknhacbfddggpaaGreatDoor
open Go.RowKit
def encU (b:List UInt8):List UInt8 × List UInt8:=if asIsS b then (bit7,b) else if (Tx.packS b).length < (Tx.quoteS b).length then (b64N,Tx.packS b) else (qpN,Tx.quoteS b)
set_option maxHeartbeats 1000000 in
theorem encode_any (s:ByteArray) (w:World) (hs:s.size ≤ 100000) (hm:Max w) :
  Calls Tryz.prog 100 #[.string s] w fun e w'=>e = .returned (.tuple #[.string ⟨(encU s.data.toList).1.toArray⟩,.string ⟨(encU s.data.toList).2.toArray⟩])∧Below w.heap.size w w':=by
 obtain ⟨U,HU⟩:∃ U,Box (U = encU s.data.toList):=⟨_,⟨rfl⟩⟩
 rw [← HU.out]
 have HM:=Box.mk hm
 clear hm
 go_enter Tryz.func100,Tryz.ntmps100
 go_wp2_with fail
 refine (comes_any s _ (by omega) HM.out).mono ?_
 rintro e w1 ⟨rfl,hb1⟩
 clear HM
 cases ha:asIsS s.data.toList
 ·obtain ⟨Q,HQ⟩:∃ Q:ByteArray,Box (Q = ⟨(Tx.quoteS s.data.toList).toArray⟩):=⟨_,⟨rfl⟩⟩
  obtain ⟨P,HP⟩:∃ P:ByteArray,Box (P = ⟨(Tx.packS s.data.toList).toArray⟩):=⟨_,⟨rfl⟩⟩
  have hqs:Q.size = (Tx.quoteS s.data.toList).length:=by rw [HQ.out,size_mk]
  have hps:P.size = (Tx.packS s.data.toList).length:=by rw [HP.out,size_mk]
  have HU1:Box (U = if P.size < Q.size then (b64N,Tx.packS s.data.toList) else (qpN,Tx.quoteS s.data.toList)):=⟨by rw [HU.out,encU,ha,hqs,hps]; rfl⟩
  clear ha HU hqs hps
  go_wp2_with fail
  refine (Tx.quote_any s _ hs).mono ?_
  rintro e w2 ⟨rfl,hb2⟩
  rw [← HQ.out]
  go_wp2_with fail
  refine (Tx.pack_any s _ hs).mono ?_
  rintro e w3 ⟨rfl,hb3⟩
  rw [← HP.out]
  have hb03:=hb1.trans ((hb2.trans (hb3.mono hb2.size)).mono hb1.size)
  by_cases hl:P.size < Q.size
  ·have HE:Box ((⟨U.1.toArray⟩:ByteArray) = ⟨#[98,97,115,101,54,52]⟩∧(⟨U.2.toArray⟩:ByteArray) = P):=⟨by rw [HU1.out,if_pos hl,HP.out]; exact ⟨rfl,rfl⟩⟩
   clear HU1 HQ HP
   go_wp2
   go_ret2
   exact ⟨by rw [HE.out.1,HE.out.2]; rfl,hb03⟩
  ·have HE:Box ((⟨U.1.toArray⟩:ByteArray) = ⟨#[113,117,111,116,101,100,45,112,114,105,110,116,97,98,108,101]⟩∧(⟨U.2.toArray⟩:ByteArray) = Q):=⟨by rw [HU1.out,if_neg hl,HQ.out]; exact ⟨rfl,rfl⟩⟩
   have hl':Q.size ≤ P.size:=by omega
   clear HU1 HQ HP
   go_wp2
   go_ret2
   exact ⟨by rw [HE.out.1,HE.out.2]; rfl,hb03⟩
 ·have HE:Box ((⟨U.1.toArray⟩:ByteArray) = ⟨#[55,98,105,116]⟩∧(⟨U.2.toArray⟩:ByteArray) = s):=⟨by rw [HU.out,encU,ha]; exact ⟨rfl,mk_data s⟩⟩
  clear HU ha
  go_wp2
  go_ret2
  exact ⟨by rw [HE.out.1,HE.out.2]; rfl,hb1⟩
end Go.Proofs.YtknhacbfddggpaaGreatDoor
namespace Go.Proofs.YtknhacbfddggpaaGreatDoor
open Go.RowKit
def mayU (L:List PB) (b:List UInt8) (many:Bool) (n:Nat):Bool:=L.all rightB && match maniesS L with
 | .error _=>false
 | .ok o=>(o.isSome == many) && (if many then b.isEmpty else n == 0)
theorem right_first (lh:List Fl):(lh.map fl2).all rightB = decide (firstW lh = lh.length):=by
 have e:firstW lh = firstP rightF lh:=rfl
 rw [e]
 induction lh with
 | nil=>rfl
 | cons f L ih =>
  unfold firstP at ih ⊢
  have hf:rightB (fl2 f) = rightF f:=rfl
  rw [List.map_cons,List.all_cons,ih rfl,List.takeWhile_cons,hf]
  cases rightF f with
  | false=>simp
  | true=>simp
set_option maxHeartbeats 2000000 in
set_option maxRecDepth 100000 in
theorem mayBe_any (A0:Option Addr) (n0 c0:Nat) (bb:ByteArray) (many:Bool) (A3:Option Addr) (n3 c3:Nat) (lh:List Fl) (w:World) (hH:Half lh) (hF:FL w (.slice A0 n0 c0) lh) (hm:Max w) (hN:Names w) (hn3:n3 ≤ 1000000) :
  Calls Tryz.prog 98 #[.agg #[.slice A0 n0 c0,.string bb,.bool many,.slice A3 n3 c3]] w fun e w'=>e = .returned (.bool (mayU (lh.map fl2) bb.data.toList many n3))∧Below w.heap.size w w':=by
 obtain ⟨R,HR⟩:∃ R,Box (R = mayU (lh.map fl2) bb.data.toList many n3):=⟨_,⟨rfl⟩⟩
 rw [← HR.out]
 have hb0:=below_oneP w (obj4 (.slice A0 n0 c0) (.string bb) (.bool many) (.slice A3 n3 c3))
 have hk0:=heap_oneP w (obj4 (.slice A0 n0 c0) (.string bb) (.bool many) (.slice A3 n3 c3))
 have HF:=Box.mk (hF.below hb0 (Nat.le_refl _))
 have HM:=Box.mk (hm.below hb0 hm.1)
 have HN:=Box.mk (hN.below hb0 hN.lt)
 have HH:=Box.mk hH
 have hmx:=hm.1
 have hnx:=hN.lt
 clear hF hm hN hH
 go_enter Tryz.func98,Tryz.ntmps98
 go_wp2_with fail
 refine (right_any _ lh _ HH.out.tiny HF.out).mono ?_
 rintro e w1 ⟨rfl,hb1⟩
 have hb01:=hb0.trans (hb1.mono hb0.size)
 have hsz0:w.heap.size < w1.heap.size:=by have:=hb1.size; rw [size_oneP] at this; omega
 by_cases hr:firstW lh = lh.length
 ·have hrd:decide (firstW lh = lh.length) = true:=decide_eq_true hr
  have HR1:Box (R = match maniesS (lh.map fl2) with
   | .error _=>false
   | .ok o=>(o.isSome == many) && (if many then bb.data.toList.isEmpty else n3 == 0)):=⟨by rw [HR.out,mayU,right_first,hrd,Bool.true_and]⟩
  rw [hrd]
  have hk1:=(hb1.block w.heap.size (by simp)).trans hk0
  obtain ⟨x0,x1,x2,x3,xf⟩:=b4_of hk1
  have HF1:=Box.mk (HF.out.below hb1 (Nat.le_refl _))
  have HM1:=Box.mk (HM.out.below hb1 (by rw [size_oneP]; omega))
  have HN1:=Box.mk (HN.out.below hb1 (by rw [size_oneP]; omega))
  clear HR hr hrd HF HM HN hk0
  go_wp2_with fail
  refine (pedge_any _ lh _ HH.out HF1.out HM1.out HN1.out).mono ?_
  rintro e w2 ⟨hE,hb2⟩
  have hb02:=hb01.trans (hb2.mono hb01.size)
  clear x0 x1 x2 x3 xf
  obtain ⟨x0,x1,x2,x3,xf⟩:=b4_of ((hb2.block w.heap.size hsz0).trans hk1)
  clear HF1 HM1 HN1 HH hk1
  unfold EPost at hE
  cases hms:maniesS (lh.map fl2) with
  | error c =>
   rw [hms] at hE
   obtain rfl:=hE
   have HR2:Box (R = false):=⟨by rw [HR1.out,hms]⟩
   clear HR1 hms
   go_wp2
   go_ret
   exact ⟨by rw [HR2.out]; rfl,hb02⟩
  | ok o =>
   rw [hms] at hE
   cases o with
   | none =>
    obtain rfl:=hE
    cases many
    ·have HR2:Box (R = (n3 == 0)):=⟨by rw [HR1.out,hms]; rfl⟩
     clear HR1 hms
     by_cases h3:n3 = 0
     ·subst h3
      go_wp2
      go_ret
      exact ⟨by rw [HR2.out]; rfl,hb02⟩
     ·have h3':((n3:Int) == 0) = false:=by rw [beq_eq_false_iff_ne]; omega
      have HR3:Box (R = false):=⟨by rw [HR2.out,beq_eq_false_iff_ne]; exact h3⟩
      clear HR2
      go_wp2
      go_ret
      exact ⟨by rw [HR3.out]; first | rfl | (show Ending.returned (Value.bool ((n3:Int) == 0)) = _; rw [h3']),hb02⟩
    ·have HR2:Box (R = false):=⟨by rw [HR1.out,hms]; rfl⟩
     clear HR1 hms
     go_wp2
     go_ret
     exact ⟨by rw [HR2.out]; rfl,hb02⟩
   | some be =>
    obtain ⟨be',rfl,_,hne,_⟩:=hE
    have he:=nonempty_of be' hne
    cases many
    ·have HR2:Box (R = false):=⟨by rw [HR1.out,hms]; rfl⟩
     clear HR1 hms
     go_wp2
     go_ret
     exact ⟨by rw [HR2.out]; rfl,hb02⟩
    ·have HR2:Box (R = bb.toList.isEmpty):=⟨by rw [HR1.out,hms,ByteArray.toList_eq]; rfl⟩
     clear HR1 hms
     go_wp2
     go_ret
     exact ⟨by rw [HR2.out]; rfl,hb02⟩
 ·have HR1:Box (R = false):=⟨by rw [HR.out,mayU,right_first,decide_eq_false hr]; rfl⟩
  rw [decide_eq_false hr]
  clear HR hr HF HM HN HH
  go_wp2
  go_ret
  exact ⟨by rw [HR1.out]; rfl,hb01⟩
set_option maxHeartbeats 1000000 in
theorem pwriteHead_any (v:Value) (L:List Fl) (s:ByteArray) (w:World) (hM:Mid L) (hF:FL w v L) (hW:firstW L = L.length) (hs:s.size ≤ 1000000000) (hl:(fieldsB L).length ≤ 1000000000) :
  Calls Tryz.prog 101 #[v,.string s] w fun e w'=>∃ S:ByteArray,e = .returned (.tuple #[.string S,.nilIface])∧S.data.toList = fieldsB L++[13,10]++s.data.toList∧Below w.heap.size w w':=by
 have HM:=Box.mk hM
 have HF:=Box.mk hF
 have HW:=Box.mk hW
 clear hM hF hW
 go_enter Tryz.func101,Tryz.ntmps101
 go_wp2_with fail
 refine (write_good v L _ HM.out HF.out HW.out).mono ?_
 rintro e w1 ⟨S,rfl,hS,hb1⟩
 have hsz:S.size ≤ 1000000002:=by rw [← size_list,hS,List.length_append]; simp; omega
 have hsum:¬ 9223372036854775807 < S.size+s.size:=by omega
 have HS:Box ((S++s).data.toList = fieldsB L++[13,10]++s.data.toList):=⟨by simp [hS]⟩
 clear hS HM HF HW
 go_wp2
 go_ret2
 exact ⟨_,rfl,HS.out,hb1⟩
end Go.Proofs.YtknhacbfddggpaaGreatDoor
