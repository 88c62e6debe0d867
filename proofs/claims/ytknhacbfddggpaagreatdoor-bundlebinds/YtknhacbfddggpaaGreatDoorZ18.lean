import Derived.Test.YtknhacbfddggpaaGreatDoorZ6
import Derived.Test.YtknhacbfddggpaaGreatDoorZ17
import Derived.OwnWalk
namespace Go.Proofs.YtknhacbfddggpaaGreatDoor
open Go.RowKit
def wrongR (least:Nat) (others:List UInt8) (x:Nat):Bool:=decide (x < least) || decide (126 < x) || decide (0 ≤ Lib.indexByte others x.toUInt8)
def fineC (least:Nat) (others:List UInt8) (c:UInt8):Bool:=!wrongR least others c.toNat
theorem decodeN_low (n b0 b1 b2 b3:Nat) (h:b0 < 128):Lib.decodeN n b0 b1 b2 b3 = (b0,1):=by simp [Lib.decodeN,h]
theorem decodeN_high (n b0 b1 b2 b3:Nat) (h:¬ b0 < 128):128 ≤ (Lib.decodeN n b0 b1 b2 b3).1:=by
 unfold Lib.decodeN
 rw [if_neg h]
 repeat' split
 all_goals simp only
 all_goals omega
theorem get_bang (s:ByteArray) (k:Nat) (h:k < s.size):s.get! k = s[k]:=by
 have hk:k < s.data.size:=h
 show s.data[k]! = _
 rw [getElem!_pos s.data k hk]; rfl
theorem decode_low (s:ByteArray) (k:Nat) (h:k < s.size) (hc:s[k].toNat < 128):Utf8.decode s k = (s[k].toNat,1):=by
 rw [Lib.decode_at,decodeN_low _ _ _ _ _ (by rw [get_bang s k h]; exact hc),get_bang s k h]
theorem decode_high (s:ByteArray) (k:Nat) (h:k < s.size) (hc:¬ s[k].toNat < 128):128 ≤ (Utf8.decode s k).1:=by
 rw [Lib.decode_at]
 exact decodeN_high _ _ _ _ _ (by rw [get_bang s k h]; exact hc)
theorem idx_from (least:Nat) (others:List UInt8) (s:ByteArray):∀ f k:Nat,s.size ≤ k+f → k ≤ s.size → (s.data.toList.take k).all (fineC least others) = true →
  Lib.idxFuncFrom (wrongR least others) true s f k = if (s.data.toList.takeWhile (fineC least others)).length = s.size then -1 else ((s.data.toList.takeWhile (fineC least others)).length:Int):=by
 intro f
 induction f with
 | zero =>
  intro k hf hk ha
  have hks:¬ k < s.size:=by omega
  obtain ⟨e1,_⟩:=while_stop s k ha (fun h=>absurd h hks)
  rw [Lib.idxFuncFrom_end _ _ _ _ _ hks,e1,List.length_take,size_list,if_pos (by omega)]
 | succ f ih =>
  intro k hf hk ha
  by_cases hks:k < s.size
  ·by_cases hw:fineC least others s[k] = true
   ·have hlow:s[k].toNat < 128:=by
     unfold fineC wrongR at hw
     simp only [Bool.not_eq_true',Bool.or_eq_false_iff,decide_eq_false_iff_not] at hw
     omega
    have hp:wrongR least others s[k].toNat = false:=by unfold fineC at hw; simpa using hw
    unfold Lib.idxFuncFrom
    rw [if_pos hks,decode_low s k hks hlow]
    simp only
    rw [if_neg (by rw [hp]; decide)]
    exact ih (k+1) (by omega) (by omega) (all_on s k hks ha hw)
   ·have hw':fineC least others s[k] = false:=by simpa using hw
    have hp:wrongR least others (Utf8.decode s k).1 = true:=by
     by_cases hlow:s[k].toNat < 128
     ·rw [decode_low s k hks hlow]
      unfold fineC at hw'
      simpa using hw'
     ·have:=decode_high s k hks hlow
      unfold wrongR
      rw [decide_eq_true (show 126 < (Utf8.decode s k).1 by omega)]
      simp
    obtain ⟨e1,_⟩:=while_stop s k ha (fun _=>hw')
    unfold Lib.idxFuncFrom
    rw [if_pos hks,if_pos hp,e1,List.length_take,size_list,if_neg (by omega)]
    omega
  ·obtain ⟨e1,_⟩:=while_stop s k ha (fun h=>absurd h hks)
   rw [Lib.idxFuncFrom_end _ _ _ _ _ hks,e1,List.length_take,size_list,if_pos (by omega)]
theorem idx_fine (least:Nat) (others:List UInt8) (s:ByteArray):Lib.idxFunc (wrongR least others) true s = if (s.data.toList.takeWhile (fineC least others)).length = s.size then -1 else ((s.data.toList.takeWhile (fineC least others)).length:Int):=
 idx_from least others s s.size 0 (by omega) (Nat.zero_le _) rfl
theorem wrong_calls (args:Array Value) (w:World):(callFunc 180 args).run Tryz.prog w = .ok (.enter 180 args) w:=by simp [go_sem]
set_option maxHeartbeats 1600000 in
set_option maxRecDepth 100000 in
theorem wrong1_any (b1 b2:Nat) (least:Nat) (others:ByteArray) (x:Nat) (w:World) (hx:x ≤ 1114111) (c1:w.cell? ⟨b1,0,none⟩ = some (.int .i32 (least:Int))) (c2:w.cell? ⟨b2,0,none⟩ = some (.string others)) :
  Calls Tryz.prog 180 #[.int .i32 (x:Int),.pointer (some ⟨b1,0,none⟩),.pointer (some ⟨b2,0,none⟩)] w fun e w'=>e = .returned (.bool (wrongR least others.data.toList x))∧w' = w:=by
 obtain ⟨R,HR⟩:∃ R,Box (R = wrongR least others.data.toList x):=⟨_,⟨rfl⟩⟩
 rw [← HR.out]
 by_cases h1:x < least
 ·have z1:(x:Int) < (least:Int):=by omega
  have HR':Box (R = true):=⟨by rw [HR.out,wrongR,decide_eq_true h1]; rfl⟩
  clear HR
  go_enter Tryz.func180,Tryz.ntmps180
  go_wp2
  go_ret
  exact ⟨ret_bool HR'.out.symm,rfl⟩
 ·have z1:¬ (x:Int) < (least:Int):=by omega
  by_cases h2:126 < x
  ·have z2:(126:Int) < (x:Int):=by omega
   have HR':Box (R = true):=⟨by rw [HR.out,wrongR,decide_eq_true h2]; simp⟩
   clear HR
   go_enter Tryz.func180,Tryz.ntmps180
   go_wp2
   go_ret
   exact ⟨ret_bool HR'.out.symm,rfl⟩
  ·have z2:¬ (126:Int) < (x:Int):=by omega
   have HR':Box (R = decide (0 ≤ Lib.indexByte others.data.toList x.toUInt8)):=⟨by rw [HR.out,wrongR,decide_eq_false h1,decide_eq_false h2]; rfl⟩
   have hc:=Tryz.strings_ContainsRune_ascii others (x:Int) w (by omega) (by omega)
   rw [Int.toNat_natCast,← HR'.out] at hc
   clear HR HR'
   go_enter Tryz.func180,Tryz.ntmps180
   go_wp2_with (go_at_call 168; refine hc.mono ?_; rintro e w' ⟨rfl,rfl⟩)
   go_ret
   exact ⟨rfl,rfl⟩
theorem pred_wrong (b1 b2 least:Nat) (others:ByteArray) (w:World) (h1:b1 < w.heap.size) (h2:b2 < w.heap.size) (c1:w.cell? ⟨b1,0,none⟩ = some (.int .i32 (least:Int))) (c2:w.cell? ⟨b2,0,none⟩ = some (.string others)) :
  PredGrows Tryz.prog 180 #[.pointer (some ⟨b1,0,none⟩),.pointer (some ⟨b2,0,none⟩)] (wrongR least others.data.toList) w:=by
 intro W x hx hb
 refine (wrong1_any b1 b2 least others x W hx ((hb.cell (p:=⟨b1,0,none⟩) h1).trans c1) ((hb.cell (p:=⟨b2,0,none⟩) h2).trans c2)).mono ?_
 rintro e w' ⟨rfl,rfl⟩
 exact ⟨rfl,Below.refl _ _⟩
set_option maxHeartbeats 400000 in
theorem wrong_any (least:Nat) (others:ByteArray) (w:World) :
  Calls Tryz.prog 140 #[.int .i32 (least:Int),.string others] w fun e w'=>e = .returned (.func (.func 180) #[] #[.pointer (some ⟨w.heap.size,0,none⟩),.pointer (some ⟨w.heap.size+1,0,none⟩)])∧w' = (w.alloc (.cells #[.int .i32 (least:Int)] 21)).alloc (.cells #[.string others] 9):=by
 go_enter Tryz.func140,Tryz.ntmps140
 go_wp2
 go_ret
 exact ⟨rfl,rfl⟩
set_option maxHeartbeats 400000 in
theorem idxf_any (g:Nat) (lb:Array Value) (eg:∀ args w,(callFunc g args).run Tryz.prog w = .ok (.enter g args) w) (p:Nat → Bool) (s:ByteArray) (w:World) (hp:PredGrows Tryz.prog g lb p w) :
  Calls Tryz.prog 139 #[.string s,.func (.func g) #[] lb] w fun e w'=>e = .returned (.int .i64 (Lib.idxFunc p true s))∧Below w.heap.size w w':=by
 have hc:=Tryz.strings_indexFunc g lb eg p true s w hp
 go_enter Tryz.func139,Tryz.ntmps139
 go_wp2_with (go_at_call 179; refine hc.mono ?_; rintro e w' ⟨rfl,hb⟩)
 go_ret
 exact ⟨rfl,hb⟩
theorem two_cells (w:World) (o1 o2:Obj) (v1 v2:Value) (t1 t2:TypeId) (h1:o1 = .cells #[v1] t1 (0,0)) (h2:o2 = .cells #[v2] t2 (0,0)):((w.alloc o1).alloc o2).cell? ⟨w.heap.size,0,none⟩ = some v1∧((w.alloc o1).alloc o2).cell? ⟨w.heap.size+1,0,none⟩ = some v2:=by
 subst h1
 subst h2
 constructor
 ·simp only [World.cell?]
  rw [Below.heap_alloc _ _ _ (by simp),heap_alloc_new]
  rfl
 ·simp only [World.cell?]
  have e:w.heap.size+1 = (w.alloc (.cells #[v1] t1 (0,0))).heap.size:=by simp
  rw [e,heap_alloc_new]
  rfl
theorem find_any (least:Nat) (others s:ByteArray) (w:World) (z:Int) (hz:z = if (s.data.toList.takeWhile (fineC least others.data.toList)).length = s.size then -1 else ((s.data.toList.takeWhile (fineC least others.data.toList)).length:Int)) :
  Calls Tryz.prog 139 #[.string s,.func (.func 180) #[] #[.pointer (some ⟨w.heap.size,0,none⟩),.pointer (some ⟨w.heap.size+1,0,none⟩)]] ((w.alloc (.cells #[.int .i32 (least:Int)] 21)).alloc (.cells #[.string others] 9)) fun e w'=>e = .returned (.int .i64 z)∧Below w.heap.size w w':=by
 refine (idxf_any 180 _ wrong_calls (wrongR least others.data.toList) s _ (pred_wrong _ _ least others _ (by simp; omega) (by simp) (two_cells w _ _ _ _ _ _ rfl rfl).1 (two_cells w _ _ _ _ _ _ rfl rfl).2)).mono ?_
 rintro e w' ⟨rfl,hb⟩
 rw [idx_fine,← hz]
 exact ⟨rfl,(((Below.refl _ _).alloc (Nat.le_refl _) _).alloc (by simp) _).trans (hb.mono (by simp; omega))⟩
theorem fine_tok:fineC 33 specials = tokC:=by
 funext c
 have key:∀ n:Fin 256,fineC 33 specials (UInt8.ofNat n.val) = tokC (UInt8.ofNat n.val):=by decide +kernel
 have:=key ⟨c.toNat,c.toNat_lt⟩
 simpa using this
theorem fine_in:fineC 32 [] = inC:=by
 funext c
 have key:∀ n:Fin 256,fineC 32 [] (UInt8.ofNat n.val) = inC (UInt8.ofNat n.val):=by decide +kernel
 have:=key ⟨c.toNat,c.toNat_lt⟩
 simpa using this
def plainC (c:UInt8):Bool:=inC c && c != 34 && c != 92
theorem fine_plain:fineC 32 [34,92] = plainC:=by
 funext c
 have key:∀ n:Fin 256,fineC 32 [34,92] (UInt8.ofNat n.val) = plainC (UInt8.ofNat n.val):=by decide +kernel
 have:=key ⟨c.toNat,c.toNat_lt⟩
 simpa using this
theorem while_len {p:UInt8 → Bool} (s:ByteArray):(s.data.toList.takeWhile p).length ≤ s.size:=by
 rw [← size_list]; exact (List.takeWhile_sublist p).length_le
theorem while_take {p:UInt8 → Bool} (s:ByteArray):(s.extract 0 (s.data.toList.takeWhile p).length).data.toList = s.data.toList.takeWhile p∧(s.extract (s.data.toList.takeWhile p).length s.size).data.toList = s.data.toList.dropWhile p:=by
 have e:s.data.toList.takeWhile p++s.data.toList.dropWhile p = s.data.toList:=List.takeWhile_append_dropWhile
 rw [extract_list,extract_list]
 constructor
 ·rw [List.drop_zero,Nat.sub_zero]
  conv=>lhs; rhs; rw [← e]
  exact List.take_left
 ·rw [List.take_of_length_le (by rw [List.length_drop,size_list]; exact Nat.le_refl _)]
  conv=>lhs; rhs; rw [← e]
  exact List.drop_left
def KPost (T U:List UInt8) (w:World) (e:Ending) (w':World):Prop:=∃ t u,e = .returned (.tuple #[.string t,.string u])∧t.data.toList = T∧u.data.toList = U∧Below w.heap.size w w'
set_option maxHeartbeats 1600000 in
set_option maxRecDepth 100000 in
theorem ktoken_any (s:ByteArray) (w:World) :
  Calls Tryz.prog 127 #[.string s] w fun e w'=>KPost (s.data.toList.takeWhile tokC) (s.data.toList.dropWhile tokC) w e w':=by
 have hw:=while_take (p:=tokC) s
 have hn:=while_len (p:=tokC) s
 obtain ⟨T,HT⟩:∃ T,Box (T = s.data.toList.takeWhile tokC):=⟨_,⟨rfl⟩⟩
 obtain ⟨U,HU⟩:∃ U,Box (U = s.data.toList.dropWhile tokC):=⟨_,⟨rfl⟩⟩
 rw [← HT.out,← HU.out] at hw ⊢
 rw [← HT.out] at hn
 obtain ⟨n,Hn⟩:∃ n,Box (n = T.length):=⟨_,⟨rfl⟩⟩
 rw [← Hn.out] at hw hn
 have HW:=Box.mk hw
 obtain ⟨z,HZ⟩:∃ z:Int,Box (z = if n = s.size then -1 else (n:Int)):=⟨_,⟨rfl⟩⟩
 have HF:Box (z = if (s.data.toList.takeWhile (fineC 33 specials)).length = s.size then -1 else ((s.data.toList.takeWhile (fineC 33 specials)).length:Int)):=⟨by rw [HZ.out,Hn.out,HT.out,fine_tok]⟩
 clear hw HT HU Hn
 by_cases hns:n = s.size
 ·have hz:z = -1:=by rw [HZ.out,if_pos hns]
  rw [hz] at HF
  rw [hns] at HW
  clear HZ hz hns hn
  go_enter Tryz.func127,Tryz.ntmps127
  go_wp2_with (first | (go_at_call 140; refine (wrong_any 33 _ _).mono ?_; rintro e w1 ⟨rfl,rfl⟩) | (go_at_call 139; refine (find_any 33 ⟨#[40,41,60,62,64,44,59,58,92,34,47,91,93,63,61]⟩ s w _ HF.out).mono ?_; rintro e w2 ⟨rfl,hb2⟩))
  go_region
  go_wp2
  go_ret2
  refine ⟨_,_,rfl,?_,?_,by first | exact hb2 | exact hb2.drew⟩
  ·have:=HW.out.1
   simpa using this
  ·have:=HW.out.2
   simpa using this
 ·have hz:z = (n:Int):=by rw [HZ.out,if_neg hns]
  rw [hz] at HF
  have hn':(n:Int) < (s.size:Int):=by omega
  clear HZ hz hns
  go_enter Tryz.func127,Tryz.ntmps127
  go_wp2_with (first | (go_at_call 140; refine (wrong_any 33 _ _).mono ?_; rintro e w1 ⟨rfl,rfl⟩) | (go_at_call 139; refine (find_any 33 ⟨#[40,41,60,62,64,44,59,58,92,34,47,91,93,63,61]⟩ s w _ HF.out).mono ?_; rintro e w2 ⟨rfl,hb2⟩))
  go_region
  go_wp2
  go_ret2
  exact ⟨s.extract 0 n,s.extract n s.size,rfl,HW.out.1,HW.out.2,by first | exact hb2 | exact hb2.drew⟩
theorem tokS_split (l:List UInt8):tokS l = (!(l.takeWhile tokC).isEmpty && (l.dropWhile tokC).isEmpty):=by
 unfold tokS
 cases l with
 | nil=>rfl
 | cons c l =>
  by_cases hc:tokC c = true
  ·have e1:(c :: l).takeWhile tokC = c :: l.takeWhile tokC:=by simp [hc]
   have e2:(c :: l).dropWhile tokC = l.dropWhile tokC:=by simp [hc]
   rw [e1,e2]
   have e3:(l.dropWhile tokC).isEmpty = l.all tokC:=by
    rw [Bool.eq_iff_iff,List.isEmpty_iff,List.all_eq_true]
    constructor
    ·intro h d hd
     have:=(List.takeWhile_append_dropWhile (p:=tokC) (l:=l))
     rw [h,List.append_nil] at this
     rw [← this] at hd
     exact (List.all_eq_true.1 (List.all_takeWhile)) d hd
    ·intro h
     have:=takeWhile_app (p:=tokC) l [] h rfl
     rw [List.append_nil] at this
     exact this.2
   rw [e3]
   simp [hc]
  ·have hc':tokC c = false:=by simpa using hc
   simp [hc']
set_option maxHeartbeats 800000 in
set_option maxRecDepth 100000 in
theorem kisToken_any (s:ByteArray) (w:World) :
  Calls Tryz.prog 92 #[.string s] w fun e w'=>e = .returned (.bool (tokS s.data.toList))∧Below w.heap.size w w':=by
 obtain ⟨R,HR⟩:∃ R,Box (R = tokS s.data.toList):=⟨_,⟨rfl⟩⟩
 rw [← HR.out]
 have HR':=Box.mk (tokS_split s.data.toList)
 go_enter Tryz.func92,Tryz.ntmps92
 go_wp2_with fail
 refine (ktoken_any s _).mono ?_
 rintro e w1 ⟨t,u,rfl,ht,hu,hb⟩
 have HE:Box (R = (!t.toList.isEmpty && u.toList.isEmpty)):=⟨by rw [HR.out,HR'.out,← ht,← hu,ByteArray.toList_eq,ByteArray.toList_eq]⟩
 clear ht hu HR HR'
 cases h1:t.toList.isEmpty
 ·cases h2:u.toList.isEmpty
  all_goals
   have HE':=Box.mk (HE.out.trans (by rw [h1,h2]))
   clear HE
   go_wp2
   go_ret
   exact ⟨ret_bool (by rw [HE'.out]; rfl),hb⟩
 ·have HE':Box (R = false):=⟨by rw [HE.out,h1]; rfl⟩
  clear HE
  go_wp2
  go_ret
  exact ⟨ret_bool (by rw [HE'.out]),hb⟩
theorem in_all (s:ByteArray):(s.data.toList.takeWhile inC).length = s.size ↔ s.data.toList.all inC = true:=by
 have e:=List.takeWhile_append_dropWhile (p:=inC) (l:=s.data.toList)
 constructor
 ·intro h
  have h2:s.data.toList.takeWhile inC = s.data.toList:=by
   refine (List.takeWhile_prefix inC).eq_of_length ?_
   rw [h,size_list]
  rw [← h2]
  exact List.all_takeWhile
 ·intro h
  have:=(takeWhile_app (p:=inC) s.data.toList [] (List.all_eq_true.1 h) rfl).1
  rw [List.append_nil] at this
  rw [this,size_list]
set_option maxHeartbeats 800000 in
set_option maxRecDepth 100000 in
theorem ksay_any (s:ByteArray) (w:World) :
  Calls Tryz.prog 93 #[.string s] w fun e w'=>e = .returned (.bool (s.data.toList.all inC))∧Below w.heap.size w w':=by
 obtain ⟨R,HR⟩:∃ R,Box (R = s.data.toList.all inC):=⟨_,⟨rfl⟩⟩
 rw [← HR.out]
 obtain ⟨z,HZ⟩:∃ z:Int,Box (z = if (s.data.toList.takeWhile (fineC 32 [])).length = s.size then -1 else ((s.data.toList.takeWhile (fineC 32 [])).length:Int)):=⟨_,⟨rfl⟩⟩
 have hz:(R = true∧z < 0) ∨ (R = false∧¬ z < 0):=by
  rw [HR.out,HZ.out,fine_in]
  by_cases h:(s.data.toList.takeWhile inC).length = s.size
  ·rw [if_pos h]
   exact .inl ⟨(in_all s).1 h,by omega⟩
  ·rw [if_neg h]
   refine .inr ⟨?_,by omega⟩
   rw [← Bool.not_eq_true]
   exact fun h'=>h ((in_all s).2 h')
 clear HR
 rcases hz with ⟨rfl,hz⟩ | ⟨rfl,hz⟩
 all_goals
  go_enter Tryz.func93,Tryz.ntmps93
  go_wp2_with (first | (go_at_call 140; refine (wrong_any 32 _ _).mono ?_; rintro e w1 ⟨rfl,rfl⟩) | (go_at_call 139; refine (find_any 32 ⟨#[]⟩ s w _ HZ.out).mono ?_; rintro e w2 ⟨rfl,hb2⟩))
  go_ret
  exact ⟨ret_bool (by simp [hz]),hb2⟩
set_option maxHeartbeats 800000 in
theorem ksmall_any (s:ByteArray) (w:World) (hs:s.size ≤ 1000000) :
  Calls Tryz.prog 91 #[.string s] w fun e w'=>e = .returned (.bool (decide (smallS s.data.toList = s.data.toList)))∧Below w.heap.size w w':=by
 go_enter Tryz.func91,Tryz.ntmps91
 go_wp2_with fail
 refine (small_str s _ (by omega)).mono ?_
 rintro e w1 ⟨t,rfl,ht,hb⟩
 have HT:=Box.mk ht
 clear ht
 go_wp2
 go_ret
 refine ⟨ret_bool ?_,hb⟩
 rw [← HT.out,Bool.eq_iff_iff,decide_eq_true_iff,ByteArray.toList_eq,ByteArray.toList_eq,beq_iff_eq]
theorem lib_left (l:List UInt8):Lib.trimLeftS l [32,9] = dropB l:=by
 unfold Lib.trimLeftS
 rw [contains_blk]
 rfl
set_option maxHeartbeats 800000 in
theorem kskip_any (s:ByteArray) (w:World) :
  Calls Tryz.prog 128 #[.string s] w fun e w'=>∃ t,e = .returned (.string t)∧t.data.toList = dropB s.data.toList∧Below w.heap.size w w':=by
 have hc:=Tryz.strings_TrimLeft_laid s ⟨#[32,9]⟩ w (by decide) (by
  intro j b hj
  match j,hj with
  | 0,hj=>cases hj; decide
  | 1,hj=>cases hj; decide
  | j+2,hj=>simp at hj)
 go_enter Tryz.func128,Tryz.ntmps128
 go_wp2_with (go_at_call 170; refine hc.mono ?_; rintro e w1 ⟨rfl,hb⟩)
 go_ret
 exact ⟨_,rfl,lib_left _,hb⟩
end Go.Proofs.YtknhacbfddggpaaGreatDoor
namespace Go.Proofs.YtknhacbfddggpaaGreatDoor
open Go.RowKit
def OwnQ (w:World) (B:Nat) (v:Value) (L:List Fl):Prop:=w.ownsRow B 103 2 v L.length (fcells L)
theorem Tryz.infoPrm:(Tryz.prog.info? 103).map (fun i=>(i.zero,i.size,i.bytes)) = some (some (.agg #[.string ⟨#[]⟩,.string ⟨#[]⟩]),2,32):=by kernel_rfl
theorem OwnQ.nil (w:World) (B:Nat):OwnQ w B (.slice none 0 0) []:=World.ownsRow_nil _ _ _ _
theorem OwnQ.below {w w':World} {B C:Nat} {v:Value} {L:List Fl} (h:OwnQ w B v L) (hb:Below C w w') (hC:w.heap.size ≤ C):OwnQ w' B v L:=by
 obtain ⟨h1,h2⟩:=h
 refine ⟨h1,?_⟩
 rcases h2 with h2 | ⟨g,cap,cur,a,b,c,d⟩
 ·exact .inl h2
 ·refine .inr ⟨g,cap,cur,a,b,?_,d⟩
  rw [hb.block g ?_]
  ·exact c
  ·have:=(Array.getElem?_eq_some_iff.1 c).1
   omega
theorem OwnQ.shape {w:World} {B:Nat} {v:Value} {L:List Fl} (h:OwnQ w B v L) :
  (v = .slice none 0 0∧L = []) ∨ ∃ g cap,v = .slice (some ⟨g,0,none⟩) L.length cap∧B ≤ g∧g < w.heap.size∧L.length ≤ cap:=by
 rcases h.2 with ⟨a,b⟩ | ⟨g,cap,cur,a,b,c,d,e,_⟩
 ·exact .inl ⟨a,List.eq_nil_of_length_eq_zero b⟩
 ·exact .inr ⟨g,cap,a,b,(Array.getElem?_eq_some_iff.1 c).1,d⟩
theorem OwnQ.cell {w:World} {B g cap n:Nat} {L:List Fl} (h:OwnQ w B (.slice (some ⟨g,0,none⟩) n cap) L) (k:Nat) (hk:k < L.length):w.cell? ⟨g,k * 2,none⟩ = some (.string L[k].1)∧w.cell? ⟨g,k * 2+1,none⟩ = some (.string L[k].2)∧w.frozen? ⟨g,k * 2+1,none⟩ = false:=by
 have hn:n = L.length:=by
  rcases h.2 with ⟨a,_⟩ | ⟨g',cap',cur,a,_⟩
  ·cases a
  ·simp only [Value.slice.injEq] at a; exact a.2.1
 subst hn
 have h':w.ownsRow B 103 2 (.slice (some ⟨g,0,none⟩) L.length cap) L.length (fcells L):=h
 have hg:=fcells_get L k hk
 exact ⟨(World.ownsRow.cellAt h' (k * 2) (by omega)).trans hg.1,(World.ownsRow.cellAt h' (k * 2+1) (by omega)).trans hg.2,World.ownsRow.frozenAt h' _⟩
theorem OwnQ.fl {w:World} {B:Nat} {v:Value} {L:List Fl} (h:OwnQ w B v L):FL w v L:=by
 rcases h.shape with ⟨rfl,rfl⟩ | ⟨g,cap,rfl,_,_,hc⟩
 ·exact FL.nil w
 ·refine ⟨_,_,rfl,hc,fun k hk=>⟨g,0,rfl,?_,?_⟩⟩
  ·rw [Nat.zero_add]; exact (h.cell k hk).1
  ·rw [Nat.zero_add]; exact (h.cell k hk).2.1
theorem OwnQ.set {w:World} {B g cap:Nat} {L:List Fl} (h:OwnQ w B (.slice (some ⟨g,0,none⟩) L.length cap) L) (k:Nat) (hk:k < L.length) (x:ByteArray):OwnQ (w.setCell ⟨g,k * 2+1,none⟩ (.string x)) B (.slice (some ⟨g,0,none⟩) L.length cap) (L.set k (L[k].1,x)):=by
 have h':w.ownsRow B 103 2 (.slice (some ⟨g,0,none⟩) L.length cap) L.length (fcells L):=h
 have:=(World.ownsRow.stored h' (k * 2+1) (.string x)).1
 rw [fcells_set L k hk x] at this
 unfold OwnQ
 rw [List.length_set]
 exact this
theorem wp_appQ0 {o:Oper} {a:Act} {K:Act → World → Prop} {Q:Exit → Act → World → Prop} (W w0:World) (s x:Operand) (ho:o.op = .call { callee:=.builtin .append,args:=#[s,x],argTypes:=#[51,51] })
  (B:Nat) (v:Value) (L:List Fl) (hs:a.eval s = v) (hown:OwnQ W B v L) (b c:Nat) (f:Fl) (hx:a.eval x = .slice (some ⟨b,0,none⟩) 1 c) (h0:W.cell? ⟨b,0,none⟩ = some (.string f.1)) (h1:W.cell? ⟨b,1,none⟩ = some (.string f.2)) (hl:L.length+1 ≤ 1000000) (hB:B ≤ W.heap.size) (hb:Below B w0 W)
  (h:∀ v' w',OwnQ w' B v' (L++[f]) → Below B w0 w' → K (a.put o.dst v') w'):o.wp Tryz.prog a W K Q:=by
 obtain ⟨i0,hi,hz0,hz1,hz2⟩:=info_parts Tryz.infoPrm
 refine wp_append_own W s x 51 ho B 103 i0 (.agg #[.string ⟨#[]⟩,.string ⟨#[]⟩]) 2 32 Tryz.underlying51 hi hz0 hz1 hz2 rfl (by decide) v L.length (fcells L) hs hown ⟨b,0,none⟩ 1 c (fcells [f]) hx rfl ?_ ?_ (by unfold maxLen; omega) (by omega) hB ?_
 ·intro j u hj
  have hjl:j < 2:=(List.getElem?_eq_some_iff.1 hj).1
  rw [Addr.add_lit,Nat.zero_add]
  match j,hjl,hj with
  | 0,_,hj=>rw [h0]; exact hj
  | 1,_,hj=>rw [h1]; exact hj
 ·intro u hu
  have:u = .string f.1 ∨ u = .string f.2:=by simpa [fcells] using hu
  rcases this with rfl | rfl <;> rfl
 ·intro v' w' h2 h3 _
  refine h v' w' ?_ (hb.grown h3 hB (fun k hk=>(hown.lt k hk).1))
  unfold OwnQ
  rw [List.length_append,fcells_append]
  exact h2
theorem wp_appQ {ops:Array Oper} {rest:List Oper} {o:Oper} {a:Act} {Q:Exit → Act → World → Prop} (W w0:World) (hgd:o.guard = none) (s x:Operand) (ho:o.op = .call { callee:=.builtin .append,args:=#[s,x],argTypes:=#[51,51] })
  (B:Nat) (v:Value) (L:List Fl) (hs:a.eval s = v) (hown:OwnQ W B v L) (b c:Nat) (f:Fl) (hx:a.eval x = .slice (some ⟨b,0,none⟩) 1 c) (h0:W.cell? ⟨b,0,none⟩ = some (.string f.1)) (h1:W.cell? ⟨b,1,none⟩ = some (.string f.2)) (hl:L.length+1 ≤ 1000000) (hB:B ≤ W.heap.size) (hb:Below B w0 W)
  (h:∀ v' w',OwnQ w' B v' (L++[f]) → Below B w0 w' → wpList Tryz.prog ops Q rest (a.put o.dst v') w'):wpList Tryz.prog ops Q (o :: rest) a W:=
 wpList_plain hgd fun _ hK=>wp_appQ0 W w0 s x ho B v L hs hown b c f hx h0 h1 hl hB hb fun v' w' h2 h3=>hK _ _ (h v' w' h2 h3)
theorem OwnQ.mono {w:World} {B B':Nat} {v:Value} {L:List Fl} (h:OwnQ w B v L) (hB:B' ≤ B):OwnQ w B' v L:=by
 obtain ⟨h1,h2⟩:=h
 refine ⟨h1,?_⟩
 rcases h2 with h2 | ⟨g,cap,cur,a,b,c⟩
 ·exact .inl h2
 ·exact .inr ⟨g,cap,cur,a,Nat.le_trans hB b,c⟩
end Go.Proofs.YtknhacbfddggpaaGreatDoor
namespace Go.Proofs.YtknhacbfddggpaaGreatDoor
open Go.RowKit
theorem byte_while (l:List UInt8) (c:UInt8):(Lib.indexByte l c = -1∧l.dropWhile (· != c) = []∧l.takeWhile (· != c) = l) ∨ (Lib.indexByte l c = ((l.takeWhile (· != c)).length:Int)∧∃ r,l.dropWhile (· != c) = c :: r):=by
 induction l with
 | nil=>exact .inl ⟨rfl,rfl,rfl⟩
 | cons b l ih =>
  by_cases hb:b = c
  ·subst hb
   refine .inr ⟨?_,l,?_⟩
   ·simp [Lib.indexByte]
   ·simp
  ·have h1:(b == c) = false:=by simpa using hb
   have h2:(b != c) = true:=by simpa using hb
   have e1:(b :: l).takeWhile (· != c) = b :: l.takeWhile (· != c):=by rw [List.takeWhile_cons,h2]; rfl
   have e2:(b :: l).dropWhile (· != c) = l.dropWhile (· != c):=by rw [List.dropWhile_cons,h2]; rfl
   rw [e1,e2,Lib.indexByte,h1]
   rcases ih with ⟨i1,i2,i3⟩ | ⟨i1,i2⟩
   ·exact .inl ⟨by rw [i1]; rfl,i2,by rw [i3]⟩
   ·refine .inr ⟨?_,i2⟩
    rw [i1]
    have:(((l.takeWhile (· != c)).length:Int) == -1) = false:=by rw [beq_eq_false_iff_ne]; omega
    rw [this,List.length_cons]
    simp
theorem cut_while (l:List UInt8) (c:UInt8):Lib.cut l [c] = (l.takeWhile (· != c),(l.dropWhile (· != c)).drop 1,!(l.dropWhile (· != c)).isEmpty):=by
 unfold Lib.cut
 rw [index_one]
 have e:=List.takeWhile_append_dropWhile (p:=(· != c)) (l:=l)
 rcases byte_while l c with ⟨h1,h2,h3⟩ | ⟨h1,r,h2⟩
 ·rw [h1,if_neg (by omega),h2,h3]; rfl
 ·rw [h1,if_pos (by omega),h2]
  rw [h2] at e
  simp only [Int.toNat_natCast,List.length_cons,List.length_nil,List.isEmpty_cons,Bool.not_false,List.drop_succ_cons,List.drop_zero]
  congr 1
  ·conv=>lhs; rhs; rw [← e]
   exact List.take_left
  ·congr 1
   conv=>lhs; rhs; rw [← e]
   rw [← List.drop_drop,List.drop_left]
   rfl
set_option maxHeartbeats 800000 in
set_option maxRecDepth 100000 in
theorem kmain_any (s:ByteArray) (w:World) (hs:s.size ≤ 100000) (hm:Max w) :
  Calls Tryz.prog 78 #[.string s] w fun e w'=>e = .returned (.bool (isMainS s.data.toList))∧Below w.heap.size w w':=by
 obtain ⟨R,HR⟩:∃ R,Box (R = isMainS s.data.toList):=⟨_,⟨rfl⟩⟩
 rw [← HR.out]
 go_enter Tryz.func78,Tryz.ntmps78
 go_wp2_with fail
 refine (cut_any s ⟨#[47]⟩ _ hs hm).mono ?_
 rintro e w1 ⟨a,b,f,rfl,hc,_,_,hb1⟩
 have hc':=cut_while s.data.toList 47
 rw [show (⟨#[47]⟩:ByteArray).data.toList = [47] from rfl,hc'] at hc
 simp only [Prod.mk.injEq] at hc
 obtain ⟨q1,q2,q3⟩:=hc
 have HE:Box (R = (tokS a.data.toList && (!f || tokS b.data.toList))):=⟨by
  rw [HR.out,isMainS,q1,q2,← q3,Bool.not_not]⟩
 clear q1 q2 q3 hc' HR hm
 have hsz:=hb1.size
 go_wp2_with fail
 refine (kisToken_any a _).mono ?_
 rintro e w2 ⟨rfl,hb2⟩
 have b2:=hb1.trans (hb2.mono hsz)
 cases h1:tokS a.data.toList
 ·have HE':Box (R = false):=⟨by rw [HE.out,h1]; rfl⟩
  clear HE
  go_wp2
  go_ret
  exact ⟨ret_bool (by rw [HE'.out]),b2⟩
 ·cases f
  ·have HE':Box (R = true):=⟨by rw [HE.out,h1]; rfl⟩
   clear HE
   go_wp2
   go_ret
   exact ⟨ret_bool (by rw [HE'.out]),b2⟩
  ·have HE':Box (R = tokS b.data.toList):=⟨by rw [HE.out,h1]; rfl⟩
   clear HE
   go_wp2_with fail
   refine (kisToken_any b _).mono ?_
   rintro e w3 ⟨rfl,hb3⟩
   go_wp2
   go_ret
   exact ⟨ret_bool (by rw [HE'.out]),b2.trans (hb3.mono b2.size)⟩
theorem quoted_plain (x y:List UInt8) (h:∀ c ∈ x,plainC c = true):quotedS (x++y) = (quotedS y).map fun q=>(x++q.1,q.2):=by
 induction x with
 | nil=>simp
 | cons c x ih =>
  have hc:=h c List.mem_cons_self
  unfold plainC at hc
  simp only [Bool.and_eq_true,bne_iff_ne,ne_eq] at hc
  rw [List.cons_append,quoted_on c _ hc.1.2 hc.2,hc.1.1,ih fun d hd=>h d (List.mem_cons_of_mem _ hd)]
  cases quotedS y with
  | none=>rfl
  | some q=>rfl
def UPost (Q:Option (List UInt8 × List UInt8)) (e:Ending):Prop:=
 match Q with
 | some q=>∃ t u:ByteArray,e = .returned (.tuple #[.string t,.string u,.bool true])∧t.data.toList = q.1∧u.data.toList = q.2
 | none=>∃ t u:ByteArray,e = .returned (.tuple #[.string t,.string u,.bool false])
theorem UPost_some {e:Ending} (o r:List UInt8) (Q:Option (List UInt8 × List UInt8)) (hQ:Q = some (o,r)) (t u:ByteArray) (he:e = .returned (.tuple #[.string t,.string u,.bool true])) (ht:t.data.toList = o) (hu:u.data.toList = r):UPost Q e:=by
 subst hQ
 exact ⟨t,u,he,ht,hu⟩
theorem UPost_none {e:Ending} (Q:Option (List UInt8 × List UInt8)) (hQ:Q = none) (t u:ByteArray) (he:e = .returned (.tuple #[.string t,.string u,.bool false])):UPost Q e:=by
 subst hQ
 exact ⟨t,u,he⟩
set_option maxHeartbeats 3200000 in
set_option maxRecDepth 100000 in
theorem unquoted_any (s:ByteArray) (w:World) (hs:s.size ≤ 1000000) :
  Calls Tryz.prog 171 #[.string s] w fun e w'=>UPost (quotedS s.data.toList) e∧Below w.heap.size w w':=by
 obtain ⟨Q,HQ⟩:∃ Q,Box (Q = quotedS s.data.toList):=⟨_,⟨rfl⟩⟩
 rw [← HQ.out]
 go_enter Tryz.func171,Tryz.ntmps171
 go_wp2
 go_loopg [0,5] s.size (fun gf x v wx=>∃ (t:ByteArray) (o:List UInt8),x = .string t∧Own wx w.heap.size v o∧Box (Q = (quotedS t.data.toList).map fun q=>(o++q.1,q.2))∧Below w.heap.size w wx∧t.size ≤ gf∧t.size+o.length ≤ s.size)
 case atStart=>exact ⟨s,[],rfl,Own.nil _ _,⟨by rw [HQ.out]; simp⟩,Below.refl _ _,Nat.le_refl _,Nat.le_refl (s.size+0)⟩
 case round =>
  obtain ⟨t,o,rfl,hown,HT,hb,hgf,hso⟩:=hrel
  have hsz:=hb.size
  have hw:=while_take (p:=plainC) t
  have hn:=while_len (p:=plainC) t
  have hdr:t.data.toList.takeWhile plainC++t.data.toList.dropWhile plainC = t.data.toList:=List.takeWhile_append_dropWhile
  have hq:=quoted_plain (t.data.toList.takeWhile plainC) (t.data.toList.dropWhile plainC) (takeWhile_all t.data.toList)
  rw [hdr] at hq
  obtain ⟨z,HZ⟩:∃ z:Int,Box (z = if (t.data.toList.takeWhile (fineC 32 [34,92])).length = t.size then -1 else ((t.data.toList.takeWhile (fineC 32 [34,92])).length:Int)):=⟨_,⟨rfl⟩⟩
  have hz:=HZ.out
  rw [fine_plain] at hz
  obtain ⟨X,HX⟩:∃ X,Box (X = t.data.toList.takeWhile plainC):=⟨_,⟨rfl⟩⟩
  obtain ⟨Y,HY⟩:∃ Y,Box (Y = t.data.toList.dropWhile plainC):=⟨_,⟨rfl⟩⟩
  have hyd:Y.head?.all (fun c=>!plainC c) = true:=by
   rw [HY.out]
   generalize t.data.toList = l
   induction l with
   | nil=>rfl
   | cons c l ih =>
    by_cases hc:plainC c = true
    ·simpa [hc] using ih
    ·simp [hc]
  rw [← HX.out,← HY.out] at hw hq hdr
  rw [← HX.out] at hn hz
  have hlen:X.length+Y.length = t.size:=by rw [← size_list t,← hdr,List.length_append]
  obtain ⟨n,hnn⟩:∃ n,n = X.length:=⟨_,rfl⟩
  rw [← hnn] at hw hn hz hlen
  clear HX HY
  by_cases hnt:n = t.size
  ·-- nothing ends it
   have hz':z = -1:=by rw [hz,if_pos hnt]
   rw [hz'] at HZ
   have hY:Y = []:=List.eq_nil_of_length_eq_zero (by omega)
   have HN:Box (Q = none):=⟨by rw [HT.out,hq,hY,quoted_nil]; rfl⟩
   clear HT HQ hw hn hz hdr hq hyd hlen hnt hz' hY hnn
   go_wp2_with fail
   refine (wrong_any 32 _ _).mono ?_
   rintro e w1 ⟨rfl,rfl⟩
   go_wp2_with fail
   refine (find_any 32 ⟨#[34,92]⟩ t wr _ HZ.out).mono ?_
   rintro e w2 ⟨rfl,hb2⟩
   go_wp2
   go_ret3
   exact ⟨UPost_none Q HN.out _ _ rfl,hb.trans (hb2.mono hsz)⟩
  ·have hz':z = (n:Int):=by rw [hz,if_neg hnt]
   rw [hz'] at HZ
   have hlt:n < t.size:=by omega
   obtain ⟨c,Y',hY⟩:∃ c Y',Y = c :: Y':=by
    cases Y with
    | nil=>simp at hlen; omega
    | cons c Y'=>exact ⟨c,Y',rfl⟩
   have htl:t.data.toList = X++c :: Y':=by rw [← hdr,hY]
   have hgetn:t[n] = c:=by
    have h1:=getL t n hlt
    have e0:n - X.length = 0:=by omega
    rw [htl,List.getElem?_append_right (by omega),e0] at h1
    exact (Option.some.inj h1).symm
   have hcp:plainC c = false:=by rw [hY] at hyd; simpa using hyd
   have HX:Box ((t.extract 0 n).data.toList = X):=⟨hw.1⟩
   have hxs:(t.extract 0 n).size = n:=by rw [← size_list,hw.1,← hnn]
   have HQ2:Box (Q = ((quotedS (c :: Y')).map fun q=>(X++q.1,q.2)).map fun q=>(o++q.1,q.2)):=⟨by rw [HT.out,hq,hY]⟩
   have hbyte:(t[n].toNat:Int) < 256:=by have:=t[n].toNat_lt; omega
   have Hg:=Box.mk hgetn
   have Hl:=Box.mk htl
   have HnX:=Box.mk hnn
   have hYl:Y'.length+n+1 = t.size:=by rw [hY] at hlen; simp at hlen; omega
   clear HT HQ hw hn hz hdr hq hyd hlen hnt hz' hY hnn hgetn htl
   go_wp2_with fail
   refine (wrong_any 32 _ _).mono ?_
   rintro e w1 ⟨rfl,rfl⟩
   go_wp2_with fail
   refine (find_any 32 ⟨#[34,92]⟩ t wr _ HZ.out).mono ?_
   rintro e w2 ⟨rfl,hb2⟩
   have b2:=hb.trans (hb2.mono hsz)
   have hsz2:=b2.size
   have hown2:=hown.below hb2 (Nat.le_refl _)
   clear hown HZ
   by_cases h34:c = 34
   ·have HE:Box (Q = some (o++X,Y')):=⟨by rw [HQ2.out,h34,quoted_end]; simp⟩
    have x1:((t[n].toNat:Int) == 34) = true:=by
     have:=u8eq t[n] 34
     rw [Hg.out,h34] at this
     rw [Hg.out,h34]; rfl
    have HY:Box ((t.extract (n+1) t.size).data.toList = Y'):=⟨by
     rw [extract_list,List.take_of_length_le (by rw [List.length_drop,size_list]; exact Nat.le_refl _),Hl.out,HnX.out,← List.drop_drop,List.drop_left]; rfl⟩
    clear HQ2 h34 hcp
    go_wp2_with (at_builtin; refine wp_appS _ w rfl (.tmp 12) (.tmp 15) rfl w.heap.size _ o rfl hown2 (t.extract 0 n) rfl (by omega) hsz2 b2 ?_; intro v3 w3 hown3 hb3; rw [HX.out] at hown3; have hcv:=hown3.string)
    have hcd:(convert 147 9 v3).run Tryz.prog w3.drew = .ok (.string ⟨(o++X).toArray⟩) w3.drew:=Own.string (w:=w3.drew) (B:=w.heap.size) hown3
    go_region
    go_wp2
    go_ret3
    refine ⟨UPost_some _ _ Q HE.out _ _ rfl ?_ HY.out,hb3.drew⟩
    simp
   ·have x1:((t[n].toNat:Int) == 34) = false:=by
     have e:=u8eq t[n] 34
     rw [Hg.out] at e ⊢
     exact e.trans (by simpa using h34)
    by_cases h92:c = 92
    ·have x2:((t[n].toNat:Int) != 92) = false:=by rw [Hg.out,h92]; rfl
     by_cases hend:Y' = []
     ·have HN:Box (Q = none):=⟨by rw [HQ2.out,h92,hend,quoted_esc0]; rfl⟩
      have x3:(((n:Int)+1) == (t.size:Int)) = true:=beqI (by rw [hend] at hYl; simp at hYl; omega)
      clear HQ2 h34 h92 hcp hend
      go_wp2_with (at_builtin; refine wp_appS _ w rfl (.tmp 12) (.tmp 15) rfl w.heap.size _ o rfl hown2 (t.extract 0 n) rfl (by omega) hsz2 b2 ?_; intro v3 w3 hown3 hb3)
      go_ret3
      exact ⟨UPost_none Q HN.out _ _ rfl,hb3⟩
     ·obtain ⟨d,Y2,hY2⟩:∃ d Y2,Y' = d :: Y2:=by
       cases Y' with
       | nil=>exact absurd rfl hend
       | cons d Y2=>exact ⟨d,Y2,rfl⟩
      have hY2l:Y2.length+n+2 = t.size:=by rw [hY2] at hYl; simp at hYl; omega
      have hlt1:n+1 < t.size:=by omega
      have x3:(((n:Int)+1) == (t.size:Int)) = false:=bneI (by omega)
      have hgd:t[n+1] = d:=by
       have h1:=getL t (n+1) hlt1
       have e0:n+1 - X.length = 1:=by have:=HnX.out; omega
       rw [Hl.out,hY2,List.getElem?_append_right (by have:=HnX.out; omega),e0] at h1
       exact (Option.some.inj h1).symm
      have HD:=Box.mk hgd
      have e1:=extract_one t (n+1) hlt1
      rw [hgd] at e1
      have HE1:=Box.mk e1
      have HY3:Box ((t.extract (n+2) t.size).data.toList = Y2):=⟨by
       rw [extract_list,List.take_of_length_le (by rw [List.length_drop,size_list]; exact Nat.le_refl _),Hl.out,hY2,HnX.out,← List.drop_drop,List.drop_left]; rfl⟩
      have hy3:(t.extract (n+2) t.size).size = t.size - (n+2):=by simp [ByteArray.size_extract]
      have HQ3:Box (Q = ((if inC d then (quotedS Y2).map fun q=>(d :: q.1,q.2) else none).map fun q=>(X++q.1,q.2)).map fun q=>(o++q.1,q.2)):=⟨by rw [HQ2.out,h92,hY2,quoted_esc1]⟩
      have hbd:(t[n+1].toNat:Int) < 256:=by have:=t[n+1].toNat_lt; omega
      clear HQ2 h34 h92 hcp hend hY2 hgd e1
      go_wp2_with (at_builtin; refine wp_appS _ w rfl (.tmp 12) (.tmp 15) rfl w.heap.size _ o rfl hown2 (t.extract 0 n) rfl (by omega) hsz2 b2 ?_; intro v3 w3 hown3 hb3)
      refine (ksay_any (t.extract (n+1) (n+2)) _).mono ?_
      rintro e w4 ⟨rfl,hb4⟩
      have b4:=hb3.trans (hb4.mono hb3.size)
      have hown4:=hown3.below hb4 (Nat.le_refl _)
      rw [HX.out] at hown4
      have hsz4:=b4.size
      have hXl:(o++X).length = o.length+n:=by rw [List.length_append,HnX.out]
      rw [HE1.out]
      cases hin:inC d
      ·have HN:Box (Q = none):=⟨by rw [HQ3.out,hin]; rfl⟩
       have hal:[d].all inC = false:=by simp [hin]
       rw [hal]
       clear HQ3 hin hal
       go_wp2
       go_ret3
       exact ⟨UPost_none Q HN.out _ _ rfl,b4⟩
      ·have HN:Box (Q = (quotedS (t.extract (n+2) t.size).data.toList).map fun q=>((o++X)++[d]++q.1,q.2)):=⟨by
        rw [HQ3.out,hin,HY3.out]
        cases quotedS Y2 with
        | none=>rfl
        | some q=>simp⟩
       have hal:[d].all inC = true:=by simp [hin]
       rw [hal]
       clear HQ3 hin hal
       go_wp2_with (at_builtin; refine wp_app1 w4 w _ rfl (.tmp 48) (.tmp 53) rfl w.heap.size _ _ rfl hown4 rfl d (by rw [HD.out]) (by omega) hsz4 b4 ?_; intro v5 w5 hown5 hb5)
       go_roundg (t.size - (n+2))
       case measure=>omega
       case rel=>exact ⟨_,_,rfl,hown5,HN,hb5,by omega,by rw [List.length_append,hXl]; simp; omega⟩
    ·have HN:Box (Q = none):=⟨by
      have hin:inC c = false:=by
       unfold plainC at hcp
       rw [show (c != 34) = true by simpa using h34,show (c != 92) = true by simpa using h92] at hcp
       simpa using hcp
      rw [HQ2.out,quoted_on c Y' h34 h92,hin]; rfl⟩
     have x2:((t[n].toNat:Int) != 92) = true:=by
      have e:=u8bne t[n] 92
      rw [Hg.out] at e ⊢
      exact e.trans (by simpa using h92)
     clear HQ2 h34 h92 hcp
     go_wp2_with (at_builtin; refine wp_appS _ w rfl (.tmp 12) (.tmp 15) rfl w.heap.size _ o rfl hown2 (t.extract 0 n) rfl (by omega) hsz2 b2 ?_; intro v3 w3 hown3 hb3)
     go_ret3
     exact ⟨UPost_none Q HN.out _ _ rfl,hb3⟩
end Go.Proofs.YtknhacbfddggpaaGreatDoor
namespace Go.Proofs.YtknhacbfddggpaaGreatDoor
open Go.RowKit
def pb2 (f:Fl):PB:=(f.1.data.toList,f.2.data.toList)
def saidS (l:List UInt8):Option (List UInt8 × List UInt8):=if l.head? = some 34 then quotedS (l.drop 1) else if l.takeWhile tokC = [] then none else some (l.takeWhile tokC,l.dropWhile tokC)
theorem valueP_said (nm r5:List UInt8):valueP nm r5 = (saidS r5).map fun q=>((smallS nm,q.1),dropB q.2):=by
 unfold valueP saidS
 split
 ·rfl
 ·split <;> rfl
theorem quoted_len:∀ (n:Nat) (l v r:List UInt8),l.length ≤ n → quotedS l = some (v,r) → v.length+r.length+1 ≤ l.length:=by
 intro n
 induction n with
 | zero =>
  intro l v r hl h
  rw [List.eq_nil_of_length_eq_zero (by omega:l.length = 0),quoted_nil] at h
  cases h
 | succ n ih =>
  intro l v r hl h
  cases l with
  | nil=>rw [quoted_nil] at h; cases h
  | cons c l =>
   simp only [List.length_cons] at hl ⊢
   by_cases h1:c = 34
   ·rw [h1,quoted_end] at h
    injection h with h
    injection h with h2 h3
    subst h2 h3
    simp
   ·by_cases h2:c = 92
    ·cases l with
     | nil=>rw [h2,quoted_esc0] at h; cases h
     | cons d l =>
      rw [h2,quoted_esc1] at h
      simp only [List.length_cons] at hl ⊢
      split at h
      ·cases hq:quotedS l with
       | none=>rw [hq] at h; cases h
       | some q =>
        rw [hq] at h
        obtain ⟨a,b⟩:=q
        have:=ih l a b (by omega) hq
        simp only [Option.map_some,Option.some.injEq,Prod.mk.injEq] at h
        obtain ⟨rfl,rfl⟩:=h
        simp only [List.length_cons]
        omega
      ·cases h
    ·rw [quoted_on c l h1 h2] at h
     split at h
     ·cases hq:quotedS l with
      | none=>rw [hq] at h; cases h
      | some q =>
       rw [hq] at h
       obtain ⟨a,b⟩:=q
       have:=ih l a b (by omega) hq
       simp only [Option.map_some,Option.some.injEq,Prod.mk.injEq] at h
       obtain ⟨rfl,rfl⟩:=h
       simp only [List.length_cons]
       omega
     ·cases h
theorem while_lens (l:List UInt8):(l.takeWhile tokC).length+(l.dropWhile tokC).length = l.length:=by
 conv=>rhs; rw [← List.takeWhile_append_dropWhile (p:=tokC) (l:=l),List.length_append]
theorem said_len (l v r:List UInt8) (h:saidS l = some (v,r)):v.length+r.length ≤ l.length:=by
 unfold saidS at h
 split at h
 ·have:=quoted_len _ _ v r (Nat.le_refl _) h
  have h2:=List.length_drop (i:=1) (l:=l)
  omega
 ·split at h
  ·cases h
  ·simp only [Option.some.injEq,Prod.mk.injEq] at h
   obtain ⟨rfl,rfl⟩:=h
   have:=while_lens l
   omega
theorem one_len (l:List UInt8) (p:PB) (r:List UInt8) (h:oneP l = some (p,r)):p.1.length+p.2.length+r.length+1 ≤ l.length:=by
 unfold oneP at h
 split at h
 ·cases h
 ·split at h
  ·rename_i h0 h1
   rw [valueP_said] at h
   generalize hx:dropB ((dropB l).dropWhile tokC) = x at h h1
   cases x with
   | nil=>cases h1
   | cons c x =>
    rw [List.drop_succ_cons,List.drop_zero] at h
    cases hq:saidS (dropB x) with
    | none=>rw [hq] at h; cases h
    | some q =>
     obtain ⟨v,rr⟩:=q
     rw [hq] at h
     simp only [Option.map_some,Option.some.injEq,Prod.mk.injEq] at h
     obtain ⟨rfl,rfl⟩:=h
     have h2:=said_len _ v rr hq
     have h3:=dropB_len x
     have h4:=dropB_len rr
     have h5:=dropB_len ((dropB l).dropWhile tokC)
     have h6:=while_lens (dropB l)
     have h7:=dropB_len l
     rw [hx,List.length_cons] at h5
     have h8:(smallS ((dropB l).takeWhile tokC)).length = ((dropB l).takeWhile tokC).length:=by simp [smallS]
     simp only
     omega
  ·cases h
theorem cutp_any (s:ByteArray) (c:UInt8) (w:World):Calls Tryz.prog 41 #[.string s,.string ⟨#[c]⟩] w fun e w'=>∃ t q,e = .returned (.tuple #[.string t,.bool q])∧((q = true∧s.data.toList = c :: t.data.toList) ∨ (q = false∧s.data.toList.head? ≠ some c∧t = s))∧w' = w:=by
 refine (Tryz.strings_CutPrefix s ⟨#[c]⟩ w).mono ?_
 rintro e w' ⟨rfl,rfl⟩
 refine ⟨_,_,rfl,?_,rfl⟩
 unfold Lib.trimPrefix Lib.hasPrefix
 rw [show (⟨#[c]⟩:ByteArray).data.toList = [c] from rfl]
 cases hs:s.data.toList with
 | nil=>exact .inr ⟨rfl,by simp,bytes_eq (by rw [hs]; rfl)⟩
 | cons d l =>
  by_cases hd:c = d
  ·subst hd
   exact .inl ⟨by simp,by simp⟩
  ·have hp:([c].isPrefixOf (d :: l)) = false:=by simp [List.isPrefixOf,hd]
   refine .inr ⟨hp,by simpa using fun e=>hd e.symm,bytes_eq ?_⟩
   rw [hp,hs]; rfl
set_option maxHeartbeats 800000 in
set_option maxRecDepth 100000 in
theorem ksaid_any (s:ByteArray) (w:World) (hs:s.size ≤ 1000000) :
  Calls Tryz.prog 129 #[.string s] w fun e w'=>UPost (saidS s.data.toList) e∧Below w.heap.size w w':=by
 obtain ⟨Q,HQ⟩:∃ Q,Box (Q = saidS s.data.toList):=⟨_,⟨rfl⟩⟩
 rw [← HQ.out]
 go_enter Tryz.func129,Tryz.ntmps129
 go_wp2_with fail
 refine (cutp_any s 34 _).mono ?_
 rintro e w1 ⟨t,q,rfl,hq,rfl⟩
 rcases hq with ⟨rfl,hq⟩ | ⟨rfl,hq,rfl⟩
 ·have HE:Box (Q = quotedS t.data.toList):=⟨by rw [HQ.out,saidS,hq]; simp⟩
  have hts:t.size ≤ 1000000:=by
   have:=congrArg List.length hq
   rw [List.length_cons,size_list,size_list] at this
   omega
  clear HQ hq
  go_wp2_with fail
  refine (unquoted_any t _ hts).mono ?_
  rintro e w2 ⟨hu,hb2⟩
  rw [← HE.out] at hu
  cases Q with
  | none =>
   obtain ⟨a,b,rfl⟩:=hu
   go_wp2
   go_ret3
   exact ⟨⟨a,b,rfl⟩,hb2⟩
  | some p =>
   obtain ⟨a,b,rfl,ha,hb⟩:=hu
   have HA:=Box.mk ha
   have HB:=Box.mk hb
   clear ha hb HE
   go_wp2
   go_ret3
   exact ⟨⟨a,b,rfl,HA.out,HB.out⟩,hb2⟩
 ·have HE:Box (Q = if t.data.toList.takeWhile tokC = [] then none else some (t.data.toList.takeWhile tokC,t.data.toList.dropWhile tokC)):=⟨by rw [HQ.out,saidS,if_neg hq]⟩
  clear HQ hq
  go_wp2_with fail
  refine (ktoken_any t _).mono ?_
  rintro e w2 ⟨a,b,rfl,ha,hb,hb2⟩
  rw [← ha,← hb] at HE
  clear ha hb
  by_cases ha0:a.size = 0
  ·have he:=empty_of a ha0
   have HE':Box (Q = none):=⟨by rw [HE.out,if_pos (data_nil a ha0)]⟩
   clear HE
   go_wp2
   go_ret3
   exact ⟨UPost_none Q HE'.out _ _ rfl,hb2⟩
  ·have he:=nonempty_of a ha0
   have HE':Box (Q = some (a.data.toList,b.data.toList)):=⟨by
    rw [HE.out,if_neg]
    intro h
    exact ha0 (by rw [← size_list,h]; rfl)⟩
   clear HE
   go_wp2
   go_ret3
   exact ⟨UPost_some _ _ Q HE'.out _ _ rfl rfl rfl,hb2⟩
def PPost (O:Option (PB × List UInt8)) (e:Ending):Prop:=
 match O with
 | some q=>∃ n v u:ByteArray,e = .returned (.tuple #[.agg #[.string n,.string v],.string u,.bool true])∧(n.data.toList,v.data.toList) = q.1∧u.data.toList = q.2
 | none=>∃ n v u:ByteArray,e = .returned (.tuple #[.agg #[.string n,.string v],.string u,.bool false])
set_option maxHeartbeats 3200000 in
set_option maxRecDepth 100000 in
theorem kparam_any (s:ByteArray) (w:World) (hs:s.size ≤ 1000000) :
  Calls Tryz.prog 79 #[.string s] w fun e w'=>PPost (oneP s.data.toList) e∧Below w.heap.size w w':=by
 obtain ⟨O,HO⟩:∃ O,Box (O = oneP s.data.toList):=⟨_,⟨rfl⟩⟩
 rw [← HO.out]
 go_enter Tryz.func79,Tryz.ntmps79
 go_wp2_with fail
 have b0:Below w.heap.size w (w.alloc (.cells #[.string ⟨#[]⟩,.string ⟨#[]⟩] 103)):=(Below.refl _ _).alloc (Nat.le_refl _) _
 refine (kskip_any s _).mono ?_
 rintro e w1 ⟨s1,rfl,h1,hb1⟩
 go_wp2_with fail
 refine (ktoken_any s1 _).mono ?_
 rintro e w2 ⟨nm,s2,rfl,h2,h3,hb2⟩
 go_wp2_with fail
 refine (kskip_any s2 _).mono ?_
 rintro e w3 ⟨s3,rfl,h4,hb3⟩
 go_wp2_with fail
 refine (cutp_any s3 61 _).mono ?_
 rintro e w4 ⟨s4,q,rfl,hq,rfl⟩
 have hb13:=(hb1.trans (hb2.mono hb1.size)).trans (hb3.mono (hb1.trans (hb2.mono hb1.size)).size)
 clear hb1 hb2 hb3
 have l1:=dropB_len s.data.toList
 have l2:=while_lens s1.data.toList
 have l3:=dropB_len s2.data.toList
 rw [← h1,size_list,size_list] at l1
 rw [← h2,← h3,size_list,size_list,size_list] at l2
 rw [← h4,size_list,size_list] at l3
 have HE:Box (O = if nm.data.toList = [] then none else if s3.data.toList.head? = some 61 then valueP nm.data.toList (dropB (s3.data.toList.drop 1)) else none):=⟨by rw [HO.out,oneP,← h1,← h2,← h3,← h4]⟩
 clear h1 h2 h3 h4 HO
 have hsz:=hb13.size
 have q0:w4.cell? ⟨w.heap.size,0,none⟩ = some (.string ⟨#[]⟩):=(hb13.cell (p:=⟨w.heap.size,0,none⟩) (by simp)).trans (by simp)
 have q1:w4.cell? ⟨w.heap.size,1,none⟩ = some (.string ⟨#[]⟩):=(hb13.cell (p:=⟨w.heap.size,1,none⟩) (by simp)).trans (by simp)
 have f0:w4.frozen? ⟨w.heap.size,0,none⟩ = false:=(hb13.frozen (p:=⟨w.heap.size,0,none⟩) (by simp)).trans (by simp)
 have f1:w4.frozen? ⟨w.heap.size,1,none⟩ = false:=(hb13.frozen (p:=⟨w.heap.size,1,none⟩) (by simp)).trans (by simp)
 have b4:Below w.heap.size w w4:=b0.trans (hb13.mono (by simp))
 have hw4:w.heap.size < w4.heap.size:=by simp at hsz; omega
 by_cases hn0:nm.size = 0
 ·have he:=empty_of nm hn0
  have HN:Box (O = none):=⟨by rw [HE.out,if_pos (data_nil nm hn0)]⟩
  clear HE hq
  go_wp2
  exact bodyPost_ret (v:=.tuple #[.agg #[.string ⟨#[]⟩,.string ⟨#[]⟩],.string ⟨#[]⟩,.bool false]) (by simp [results,Tryz.results79,go_sem,q0,q1]) rfl ⟨by rw [HN.out]; exact ⟨_,_,_,rfl⟩,(b4.setCell (Nat.le_refl _) _).setCell (Nat.le_refl _) _⟩
 ·have he:=nonempty_of nm hn0
  have hne:nm.data.toList ≠ []:=fun h=>hn0 (by rw [← size_list,h]; rfl)
  rcases hq with ⟨rfl,hq⟩ | ⟨rfl,hq,rfl⟩
  ·have HV:Box (O = valueP nm.data.toList (dropB s4.data.toList)):=⟨by rw [HE.out,if_neg hne,hq]; simp⟩
   have l4:s4.size ≤ 1000000:=by
    have:=congrArg List.length hq
    rw [List.length_cons,size_list,size_list] at this
    omega
   clear HE hq hne
   go_wp2_with fail
   refine (kskip_any s4 _).mono ?_
   rintro e w5 ⟨s5,rfl,h5,hb5⟩
   have l5:=dropB_len s4.data.toList
   rw [← h5,size_list,size_list] at l5
   rw [← h5,valueP_said] at HV
   clear h5
   go_wp2_with fail
   refine (ksaid_any s5 _ (by omega)).mono ?_
   rintro e w6 ⟨hu,hb6⟩
   have hb46:=hb5.trans (hb6.mono hb5.size)
   clear hb5 hb6
   obtain ⟨v,s6,ok,rfl,hu'⟩:∃ v s6 ok,e = .returned (.tuple #[.string v,.string s6,.bool ok])∧((ok = true∧saidS s5.data.toList = some (v.data.toList,s6.data.toList)) ∨ (ok = false∧saidS s5.data.toList = none)):=by
    cases hQ:saidS s5.data.toList with
    | none =>
     rw [hQ] at hu
     obtain ⟨a,b,rfl⟩:=hu
     exact ⟨a,b,false,rfl,.inr ⟨rfl,rfl⟩⟩
    | some q =>
     rw [hQ] at hu
     obtain ⟨a,b,rfl,ha,hb⟩:=hu
     exact ⟨a,b,true,rfl,.inl ⟨rfl,by rw [ha,hb]⟩⟩
   clear hu
   have HU:=Box.mk hu'
   clear hu'
   go_wp2_with fail
   refine (small_str nm _ (by omega)).mono ?_
   rintro e w7 ⟨nm2,rfl,h7,hb7⟩
   go_wp2_with fail
   refine (kskip_any s6 _).mono ?_
   rintro e w8 ⟨s7,rfl,h8,hb8⟩
   have hb48:=(hb46.trans (hb7.mono hb46.size)).trans (hb8.mono (hb46.trans (hb7.mono hb46.size)).size)
   clear hb46 hb7 hb8
   have r0:w8.cell? ⟨w.heap.size,0,none⟩ = some (.string ⟨#[]⟩):=(hb48.cell (p:=⟨w.heap.size,0,none⟩) hw4).trans q0
   have r1:w8.cell? ⟨w.heap.size,1,none⟩ = some (.string ⟨#[]⟩):=(hb48.cell (p:=⟨w.heap.size,1,none⟩) hw4).trans q1
   have g0:w8.frozen? ⟨w.heap.size,0,none⟩ = false:=(hb48.frozen (p:=⟨w.heap.size,0,none⟩) hw4).trans f0
   have g1:w8.frozen? ⟨w.heap.size,1,none⟩ = false:=(hb48.frozen (p:=⟨w.heap.size,1,none⟩) hw4).trans f1
   have b8:Below w.heap.size w w8:=b4.trans (hb48.mono (by omega))
   have HP:Box (PPost O (.returned (.tuple #[.agg #[.string nm2,.string v],.string s7,.bool ok]))):=⟨by
    rw [HV.out]
    rcases HU.out with ⟨rfl,h⟩ | ⟨rfl,h⟩
    ·rw [h]
     exact ⟨nm2,v,s7,rfl,by rw [h7],h8⟩
    ·rw [h]
     exact ⟨nm2,v,s7,rfl⟩⟩
   clear HU HV h7 h8 q0 q1 f0 f1
   go_wp2
   exact bodyPost_ret (v:=.tuple #[.agg #[.string nm2,.string v],.string s7,.bool ok]) (by simp [results,Tryz.results79,go_sem,r0,r1]) rfl ⟨HP.out,(b8.setCell (Nat.le_refl _) _).setCell (Nat.le_refl _) _⟩
  ·have HN:Box (O = none):=⟨by rw [HE.out,if_neg hne,if_neg hq]⟩
   clear HE hq hne
   go_wp2
   exact bodyPost_ret (v:=.tuple #[.agg #[.string ⟨#[]⟩,.string ⟨#[]⟩],.string ⟨#[]⟩,.bool false]) (by simp [results,Tryz.results79,go_sem,q0,q1]) rfl ⟨by rw [HN.out]; exact ⟨_,_,_,rfl⟩,(b4.setCell (Nat.le_refl _) _).setCell (Nat.le_refl _) _⟩
end Go.Proofs.YtknhacbfddggpaaGreatDoor
namespace Go.Proofs.YtknhacbfddggpaaGreatDoor
open Go.RowKit
theorem params_nil (k:Nat):paramsF k [] = some []:=by
 cases k <;> simp [paramsF]
theorem params_bad (k:Nat) (l:List UInt8) (h0:l ≠ []) (h:l.head? ≠ some 59):paramsF k l = none:=by
 cases k with
 | zero=>unfold paramsF; rw [if_neg h0]
 | succ k=>unfold paramsF; rw [if_neg h0,if_neg h]
theorem params_none (k:Nat) (r:List UInt8) (h:oneP r = none):paramsF k (59 :: r) = none:=by
 cases k with
 | zero=>unfold paramsF; rw [if_neg (by simp)]
 | succ k =>
  unfold paramsF
  rw [if_neg (by simp),List.head?_cons,if_pos rfl,List.drop_succ_cons,List.drop_zero,h]; rfl
theorem params_step (k:Nat) (r:List UInt8) (p:PB) (u:List UInt8) (h:oneP r = some (p,u)):paramsF (k+1) (59 :: r) = (paramsF k u).map fun x=>p :: x:=by
 conv=>lhs; unfold paramsF
 rw [if_neg (by simp),List.head?_cons,if_pos rfl,List.drop_succ_cons,List.drop_zero,h]; rfl
def RPost (O:Option (List UInt8 × List PB)) (n B:Nat) (e:Ending) (w':World):Prop:=
 match O with
 | some q=>∃ (m:ByteArray) (v:Value) (L:List Fl),e = .returned (.tuple #[.string m,v,.nilIface])∧m.data.toList = q.1∧OwnQ w' B v L∧L.map pb2 = q.2∧m.size ≤ n∧L.length ≤ n∧∀ f ∈ L,f.1.size ≤ n∧f.2.size ≤ n
 | none=>e = .returned (.tuple #[.string ⟨#[]⟩,.slice none 0 0,.iface 30 (.int .i64 3)])
theorem RPost_none {O:Option (List UInt8 × List PB)} {n B:Nat} {e:Ending} {w':World} (hO:O = none) (he:e = .returned (.tuple #[.string ⟨#[]⟩,.slice none 0 0,.iface 30 (.int .i64 3)])):RPost O n B e w':=by
 subst hO
 exact he
set_option maxHeartbeats 4000000 in
set_option maxRecDepth 100000 in
theorem kread_any (s:ByteArray) (w:World) (hs:s.size ≤ 100000) (hm:Max w) :
  Calls Tryz.prog 36 #[.string s] w fun e w'=>RPost (readK s.data.toList) s.size w.heap.size e w'∧Below w.heap.size w w':=by
 obtain ⟨O,HO⟩:∃ O,Box (O = readK s.data.toList):=⟨_,⟨rfl⟩⟩
 rw [← HO.out]
 have HMx:=Box.mk hm
 have hw0:=hm.1
 clear hm
 go_enter Tryz.func36,Tryz.ntmps36
 go_wp2_with fail
 refine (cut_any s ⟨#[59]⟩ _ hs HMx.out).mono ?_
 rintro e w1 ⟨a,r0,f,rfl,hc,hal,hrl,hb1⟩
 have hc':=cut_while s.data.toList 59
 rw [show (⟨#[59]⟩:ByteArray).data.toList = [59] from rfl,hc'] at hc
 simp only [Prod.mk.injEq] at hc
 obtain ⟨c1,c2,c3⟩:=hc
 have hrem:s.data.toList.dropWhile (· != 59) = if f then 59 :: r0.data.toList else []:=by
  rw [← c2,← c3]
  rcases byte_while s.data.toList 59 with ⟨_,h2,_⟩ | ⟨_,r,h2⟩
  ·rw [h2]; rfl
  ·rw [h2]; rfl
 have hfr:f = true → r0.size+1 ≤ s.size:=by
  intro hf
  have h1:=List.takeWhile_append_dropWhile (p:=(· != 59)) (l:=s.data.toList)
  have h2:=congrArg List.length h1
  rw [List.length_append,hrem,hf,size_list] at h2
  simp only [if_true,List.length_cons,size_list] at h2
  omega
 clear hc' c2 c3
 go_wp2_with fail
 refine (hTrim_any a _ (by omega)).mono ?_
 rintro e w2 ⟨b,rfl,hb,hb2⟩
 have hbl:=trimS_len a.data.toList
 rw [← hb,size_list,size_list] at hbl
 go_wp2_with fail
 refine (small_str b _ (by omega)).mono ?_
 rintro e w3 ⟨m,rfl,hmn,hb3⟩
 have hml:m.size = b.size:=by rw [← size_list,hmn]; simp [smallS]
 have hb13:=(hb1.trans (hb2.mono hb1.size)).trans (hb3.mono (hb1.trans (hb2.mono hb1.size)).size)
 clear hb1 hb2 hb3
 have hsz3:=hb13.size
 go_wp2_with fail
 refine (kmain_any m _ (by omega) (HMx.out.below hb13 hw0)).mono ?_
 rintro e w4 ⟨rfl,hb4⟩
 have b4:=hb13.trans (hb4.mono hsz3)
 clear hb13 hb4 hsz3
 have hsz4:=b4.size
 have HE:Box (O = if isMainS m.data.toList then (paramsF s.size (if f then 59 :: r0.data.toList else [])).map (fun k=>(m.data.toList,k)) else none):=⟨by
  rw [HO.out,readK,← hrem,size_list,c1,← hb,← hmn]⟩
 clear HO hb hmn c1 hrem
 cases him:isMainS m.data.toList
 ·have HN:Box (O = none):=⟨by rw [HE.out,him]; rfl⟩
  clear HE him
  go_wp2
  go_ret3
  exact ⟨RPost_none HN.out rfl,b4⟩
 ·have HE':Box (O = (paramsF s.size (if f then 59 :: r0.data.toList else [])).map (fun k=>(m.data.toList,k))):=⟨by rw [HE.out,him]; rfl⟩
  clear HE him
  go_wp2
  go_loopg [6,7,9] (s.size+1) (fun gf x y v wr=>∃ (r:ByteArray) (g:Bool) (acc:List Fl) (k:Nat),x = .string r∧y = .bool g∧OwnQ wr w.heap.size v acc∧Below w.heap.size w wr∧(g = true → r.size+1 ≤ gf∧r.size+1 ≤ k∧r.size+1+acc.length ≤ s.size)∧acc.length ≤ s.size∧r.size ≤ s.size∧Box (∀ f ∈ acc,f.1.size ≤ s.size∧f.2.size ≤ s.size)∧Box (O = (paramsF k (if g then 59 :: r.data.toList else [])).map (fun x=>(m.data.toList,acc.map pb2++x))))
  case atStart=>exact ⟨r0,f,[],s.size,rfl,rfl,OwnQ.nil _ _,b4,fun h=>⟨by have:=hfr h; omega,hfr h,hfr h⟩,Nat.zero_le _,hrl,⟨fun f hf=>absurd hf (by simp)⟩,⟨by rw [HE'.out]; simp⟩⟩
  case round =>
   obtain ⟨r,g,acc,k,rfl,rfl,hown,hbw,hbd,hacl,hrs,HA,HR⟩:=hrel
   have hsz:=hbw.size
   cases g
   ·have HF:Box (O = some (m.data.toList,acc.map pb2)):=⟨by rw [HR.out]; simp [params_nil]⟩
    clear HR HE'
    go_wp2
    go_ret3
    refine ⟨?_,hbw⟩
    rw [HF.out]
    exact ⟨m,_,acc,rfl,rfl,hown,rfl,by omega,hacl,HA.out⟩
   ·obtain ⟨d1,d2,d3⟩:=hbd rfl
    have HR':Box (O = (paramsF k (59 :: r.data.toList)).map (fun x=>(m.data.toList,acc.map pb2++x))):=⟨by rw [HR.out]; simp⟩
    clear HR HE' hbd
    obtain ⟨k',hk⟩:∃ k',k = k'+1:=⟨k - 1,by omega⟩
    go_wp2_with fail
    refine (kparam_any r _ (by omega)).mono ?_
    rintro e w5 ⟨hp,hb5⟩
    have b5:=hbw.trans (hb5.mono hsz)
    have hown5:=hown.below hb5 (Nat.le_refl _)
    have hsz5:=b5.size
    clear hown hb5
    cases hone:oneP r.data.toList with
    | none =>
     rw [hone] at hp
     obtain ⟨n1,v1,u1,rfl⟩:=hp
     have HN:Box (O = none):=⟨by rw [HR'.out,params_none _ _ hone]; rfl⟩
     clear HR' hone
     go_wp2
     go_ret3
     exact ⟨RPost_none HN.out rfl,b5.alloc hsz5 _⟩
    | some q =>
     obtain ⟨p,u⟩:=q
     rw [hone] at hp
     obtain ⟨n1,v1,u1,rfl,hpq,hu⟩:=hp
     simp only at hpq hu
     have hlen:=one_len _ _ _ hone
     rw [← hpq,← hu,size_list] at hlen
     simp only [size_list] at hlen
     have HR2:Box (O = (paramsF k' u1.data.toList).map (fun x=>(m.data.toList,acc.map pb2++([pb2 (n1,v1)]++x)))):=⟨by
      rw [HR'.out,hk,params_step _ _ _ _ hone,← hu,← hpq,Option.map_map]
      rfl⟩
     have HA2:Box (∀ f ∈ acc++[(n1,v1)],f.1.size ≤ s.size∧f.2.size ≤ s.size):=⟨fun f hf=>by
      rcases List.mem_append.1 hf with h | h
      ·exact HA.out f h
      ·rw [List.mem_singleton.1 h]
       simp only
       omega⟩
     clear HR' hone hpq hu HA
     go_wp2_with (at_builtin; refine wp_appQ ((w5.alloc (.cells #[.string n1,.string v1] 103)).alloc (.cells #[.string n1,.string v1] 103)) w rfl (.tmp 36) (.tmp 38) rfl w.heap.size _ acc rfl (World.ownsRow.alloc (World.ownsRow.alloc hown5 _) _) (w5.heap.size+1) 1 (n1,v1) rfl (by simp) (by simp) (by omega) (by simp; omega) ((b5.alloc hsz5 _).alloc (by simp; omega) _) ?_; intro v6 w6 hown6 hb6)
     refine (cutp_any u1 59 _).mono ?_
     rintro e w7 ⟨t,q,rfl,hq,rfl⟩
     rcases hq with ⟨rfl,hq⟩ | ⟨rfl,hq,rfl⟩
     ·have hts:t.size+1 = u1.size:=by
       have:=congrArg List.length hq
       rw [List.length_cons,size_list,size_list] at this
       omega
      have HR3:Box (O = (paramsF k' (if true then 59 :: t.data.toList else [])).map (fun x=>(m.data.toList,(acc++[(n1,v1)]).map pb2++x))):=⟨by
       rw [HR2.out,hq]
       simp⟩
      clear HR2 hq
      go_wp2
      go_roundg (t.size+1)
      case measure=>omega
      case rel=>exact ⟨t,true,_,k',rfl,rfl,hown6,hb6,fun _=>⟨Nat.le_refl _,by omega,by rw [List.length_append]; simp; omega⟩,by rw [List.length_append]; simp; omega,by omega,HA2,HR3⟩
     ·by_cases ht0:t.size = 0
      ·have he:=empty_of t ht0
       have HR3:Box (O = (paramsF k' (if false then 59 :: t.data.toList else [])).map (fun x=>(m.data.toList,(acc++[(n1,v1)]).map pb2++x))):=⟨by
        rw [HR2.out,data_nil t ht0]
        simp⟩
       clear HR2 hq ht0
       go_wp2
       go_roundg 0
       case measure=>omega
       case rel=>exact ⟨t,false,_,k',rfl,rfl,hown6,hb6,fun h=>(by cases h),by rw [List.length_append]; simp; omega,by omega,HA2,HR3⟩
      ·have he:=nonempty_of t ht0
       have HN:Box (O = none):=⟨by
        rw [HR2.out,params_bad _ _ (fun h=>ht0 (by rw [← size_list,h]; rfl)) hq]; rfl⟩
       clear HR2 hq ht0
       go_wp2
       go_ret3
       exact ⟨RPost_none HN.out rfl,hb6⟩
end Go.Proofs.YtknhacbfddggpaaGreatDoor
