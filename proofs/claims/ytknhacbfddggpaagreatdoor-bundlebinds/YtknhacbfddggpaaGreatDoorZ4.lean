import Derived.Test.YtknhacbfddggpaaGreatDoorZB0
import Derived.Lib.Strings
import Derived.Deep.Slices
namespace Go.Proofs.YtknhacbfddggpaaGreatDoor
open Go.RowKit
structure Box (p:Prop):Prop where
 out:p
def strSize:Value → Nat
 | .string t=>t.size
 | _=>0
theorem u8eq (c d:UInt8):((c.toNat:Int) == (d.toNat:Int)) = (c == d):=by
 rw [Bool.eq_iff_iff]; simp [← UInt8.toNat_inj]; omega
theorem u8bne (c d:UInt8):((c.toNat:Int) != (d.toNat:Int)) = (c != d):=by
 show (!((c.toNat:Int) == (d.toNat:Int))) = !(c == d)
 rw [u8eq]
theorem size_list (s:ByteArray):s.data.toList.length = s.size:=by rw [Array.length_toList]; rfl
theorem getL (s:ByteArray) (k:Nat) (h:k < s.size):s.data.toList[k]? = some s[k]:=by
 rw [List.getElem?_eq_getElem (by rw [size_list]; exact h)]; rfl
theorem take_snoc (s:ByteArray) (k:Nat) (h:k < s.size):s.data.toList.take (k+1) = s.data.toList.take k++[s[k]]:=by
 rw [List.take_add_one,getL s k h]; rfl
theorem take_all (s:ByteArray) (k:Nat) (h:¬ k < s.size):s.data.toList.take k = s.data.toList:=List.take_of_length_le (by rw [size_list]; omega)
theorem eta (b:ByteArray):(⟨b.data.toList.toArray⟩:ByteArray) = b:=by simp
theorem bytes_eq {a b:ByteArray} (h:a.data.toList = b.data.toList):a = b:=by rw [← eta a,← eta b,h]
theorem empty_of (t:ByteArray) (h:t.size = 0):t.toList.isEmpty = true:=by
 rw [ByteArray.toList_eq,List.isEmpty_iff]
 exact List.eq_nil_of_length_eq_zero (by rw [size_list]; exact h)
theorem nonempty_of (t:ByteArray) (h:¬ t.size = 0):t.toList.isEmpty = false:=by
 rw [ByteArray.toList_eq,← Bool.not_eq_true,List.isEmpty_iff]
 intro e
 apply h
 rw [← size_list,e]; rfl
theorem data_nil (t:ByteArray) (h:t.size = 0):t.data.toList = []:=List.eq_nil_of_length_eq_zero (by rw [size_list]; exact h)
theorem extract_list (t:ByteArray) (a b:Nat):(t.extract a b).data.toList = (t.data.toList.drop a).take (b - a):=by
 simp [ByteArray.data_extract,Array.toList_extract,List.extract_eq_take_drop]
theorem head_split (t:ByteArray) (h:0 < t.size):t.data.toList = t[0] :: (t.extract 1 t.size).data.toList:=by
 rw [extract_list,List.take_of_length_le (by rw [List.length_drop,size_list]; exact Nat.le_refl _)]
 have h1:0 < t.data.toList.length:=by rw [size_list]; exact h
 have:t.data.toList = t.data.toList[0] :: t.data.toList.drop 1:=by rw [List.getElem_cons_drop]; rfl
 exact this
theorem last_split (t:ByteArray) (h:0 < t.size):t.data.toList = (t.extract 0 (t.size - 1)).data.toList++[t[t.size - 1]]:=by
 rw [extract_list]
 have:=take_snoc t (t.size - 1) (by omega)
 rw [Nat.sub_add_cancel h,List.take_of_length_le (by rw [size_list]; omega)] at this
 simpa using this
def blk (c:UInt8):Bool:=c == 32 || c == 9
def nameC (c:UInt8):Bool:=decide (33 ≤ c.toNat) && decide (c.toNat ≤ 126) && decide (c.toNat ≠ 58)
def sayC (c:UInt8):Bool:=(decide (32 ≤ c.toNat) || decide (c.toNat = 9)) && decide (c.toNat ≠ 127)
def smallC (c:UInt8):UInt8:=if 65 ≤ c.toNat∧c.toNat ≤ 90 then UInt8.ofNat (c.toNat+32) else c
def nameS (l:List UInt8):Bool:=!l.isEmpty && l.all nameC
def dropB (l:List UInt8):List UInt8:=l.dropWhile blk
def dropE (l:List UInt8):List UInt8:=(l.reverse.dropWhile blk).reverse
def trimS (l:List UInt8):List UInt8:=dropE (dropB l)
def saysS (l:List UInt8):Bool:=l.all sayC && decide (trimS l = l)
def smallS (l:List UInt8):List UInt8:=l.map smallC
theorem beqI {a b:Int} (h:a = b):(a == b) = true:=by rw [beq_iff_eq]; exact h
theorem bneI {a b:Int} (h:a ≠ b):(a == b) = false:=by rw [beq_eq_false_iff_ne]; exact h
theorem nameC_yes (c:UInt8) (h:nameC c = true):33 ≤ (c.toNat:Int)∧(c.toNat:Int) ≤ 126∧((c.toNat:Int) == 58) = false:=by
 simp only [nameC,Bool.and_eq_true,decide_eq_true_eq] at h
 exact ⟨by omega,by omega,bneI (by omega)⟩
theorem nameC_no (c:UInt8) (h:nameC c = false):(c.toNat:Int) < 33 ∨ (33 ≤ (c.toNat:Int)∧126 < (c.toNat:Int)) ∨ (33 ≤ (c.toNat:Int)∧(c.toNat:Int) ≤ 126∧((c.toNat:Int) == 58) = true):=by
 have h':¬ (33 ≤ c.toNat∧c.toNat ≤ 126∧c.toNat ≠ 58):=by
  intro hh
  rw [nameC,decide_eq_true hh.1,decide_eq_true hh.2.1,decide_eq_true hh.2.2] at h
  cases h
 by_cases h1:(c.toNat:Int) < 33
 ·exact .inl h1
 ·by_cases h2:126 < (c.toNat:Int)
  ·exact .inr (.inl ⟨by omega,h2⟩)
  ·exact .inr (.inr ⟨by omega,by omega,beqI (by omega)⟩)
theorem sayC_yes (c:UInt8) (h:sayC c = true):(32 ≤ (c.toNat:Int)∧((c.toNat:Int) == 127) = false) ∨ ((c.toNat:Int) < 32∧((c.toNat:Int) != 9) = false∧((c.toNat:Int) == 127) = false):=by
 simp only [sayC,Bool.and_eq_true,Bool.or_eq_true,decide_eq_true_eq] at h
 by_cases h1:32 ≤ (c.toNat:Int)
 ·exact .inl ⟨h1,bneI (by omega)⟩
 ·exact .inr ⟨by omega,by rw [bne,beqI (by omega)]; rfl,bneI (by omega)⟩
theorem sayC_no (c:UInt8) (h:sayC c = false):(32 ≤ (c.toNat:Int)∧((c.toNat:Int) == 127) = true) ∨ ((c.toNat:Int) < 32∧((c.toNat:Int) != 9) = true):=by
 have h':¬ ((32 ≤ c.toNat ∨ c.toNat = 9)∧c.toNat ≠ 127):=by
  rintro ⟨a | a,b⟩
  ·rw [sayC,decide_eq_true a,decide_eq_true b] at h; cases h
  ·rw [sayC,decide_eq_true a,decide_eq_true b] at h; simp at h
 by_cases h1:32 ≤ (c.toNat:Int)
 ·exact .inl ⟨h1,beqI (by omega)⟩
 ·exact .inr ⟨by omega,by rw [bne,bneI (by omega)]; rfl⟩
theorem smallC_yes (c:UInt8) (h:65 ≤ c.toNat∧c.toNat ≤ 90):((smallC c).toNat:Int) = (c.toNat:Int)+32:=by
 rw [smallC,if_pos h,UInt8.toNat_ofNat_of_lt' (by show _ < 256; omega)]; omega
theorem smallC_no (c:UInt8) (h:¬ (65 ≤ c.toNat∧c.toNat ≤ 90)):smallC c = c:=by rw [smallC,if_neg h]
theorem all_stop {p:UInt8 → Bool} (s:ByteArray) (k:Nat) (h:k < s.size) (hp:p s[k] = false):s.data.toList.all p = false:=by
 rw [List.all_eq_false]
 exact ⟨s[k],List.mem_of_getElem? (getL s k h),by rw [hp]; decide⟩
theorem all_on {p:UInt8 → Bool} (s:ByteArray) (k:Nat) (h:k < s.size) (h0:(s.data.toList.take k).all p = true) (hp:p s[k] = true):(s.data.toList.take (k+1)).all p = true:=by
 rw [take_snoc s k h,List.all_append,h0]; simp [hp]
theorem dropB_self (l:List UInt8) (h:l.head?.all (fun c=>!blk c) = true):dropB l = l:=by
 cases l with
 | nil=>rfl
 | cons c l=>simp at h; simp [dropB,h]
theorem dropE_self (l:List UInt8) (h:l.getLast?.all (fun c=>!blk c) = true):dropE l = l:=by
 have:dropB l.reverse = l.reverse:=dropB_self _ (by rw [List.head?_reverse]; exact h)
 unfold dropE
 show (dropB l.reverse).reverse = l
 rw [this,List.reverse_reverse]
theorem dropB_len (l:List UInt8):(dropB l).length ≤ l.length:=by
 induction l with
 | nil=>exact Nat.le_refl _
 | cons c l ih =>
  unfold dropB
  rw [List.dropWhile_cons]
  split
  ·exact Nat.le_trans ih (by simp)
  ·exact Nat.le_refl _
theorem dropE_len (l:List UInt8):(dropE l).length ≤ l.length:=by
 have:=dropB_len l.reverse
 rw [List.length_reverse] at this
 unfold dropE
 rw [List.length_reverse]
 exact this
theorem trim_iff (l:List UInt8):trimS l = l ↔ (l.head?.all (fun c=>!blk c) = true∧l.getLast?.all (fun c=>!blk c) = true):=by
 constructor
 ·intro h
  have h1:dropB l = l:=by
   cases l with
   | nil=>rfl
   | cons c l =>
    by_cases hc:blk c = true
    ·exfalso
     have e:dropB (c :: l) = dropB l:=by simp [dropB,hc]
     have h2:=dropE_len (dropB (c :: l))
     have h3:=dropB_len l
     have h4:(trimS (c :: l)).length = (c :: l).length:=by rw [h]
     unfold trimS at h4
     rw [e] at h2 h4
     simp at h4
     omega
    ·simp [dropB,hc]
  have h2:dropE l = l:=by have:=h; unfold trimS at this; rw [h1] at this; exact this
  constructor
  ·cases l with
   | nil=>rfl
   | cons c l =>
    simp
    by_cases hc:blk c = true
    ·exfalso
     have e:dropB (c :: l) = dropB l:=by simp [dropB,hc]
     have h3:=dropB_len l
     have h4:(dropB (c :: l)).length = (c :: l).length:=by rw [h1]
     rw [e] at h4; simp at h4; omega
    ·simpa using hc
  ·have h5:dropB l.reverse = l.reverse:=by
    have:=congrArg List.reverse h2
    unfold dropE at this
    rw [List.reverse_reverse] at this
    exact this
   rw [← List.head?_reverse]
   generalize l.reverse = m at h5
   cases m with
   | nil=>rfl
   | cons c m =>
    simp
    by_cases hc:blk c = true
    ·exfalso
     have e:dropB (c :: m) = dropB m:=by simp [dropB,hc]
     have h3:=dropB_len m
     have h4:(dropB (c :: m)).length = (c :: m).length:=by rw [h5]
     rw [e] at h4; simp at h4; omega
    ·simpa using hc
 ·rintro ⟨h1,h2⟩
  unfold trimS
  rw [dropB_self l h1,dropE_self l h2]
abbrev Fl:=ByteArray × ByteArray
def fcells (L:List Fl):List Value:=L.flatMap fun f=>[Value.string f.1,Value.string f.2]
def FLA (w:World) (A:Option Addr) (L:List Fl):Prop:=∀ k (hk:k < L.length),∃ b off,A = some ⟨b,off,none⟩∧w.cell? ⟨b,off+k * 2,none⟩ = some (.string L[k].1)∧w.cell? ⟨b,off+k * 2+1,none⟩ = some (.string L[k].2)
def FL (w:World) (v:Value) (L:List Fl):Prop:=∃ A cap,v = .slice A L.length cap∧L.length ≤ cap∧FLA w A L
def Tiny (L:List Fl):Prop:=L.length ≤ 100000∧∀ f ∈ L,f.1.size ≤ 1000000∧f.2.size ≤ 1000000
theorem FL.nil (w:World):FL w (.slice none 0 0) []:=⟨none,0,rfl,Nat.le_refl _,fun k hk=>absurd hk (by simp)⟩
theorem FLA.below {w w':World} {C:Nat} {A:Option Addr} {L:List Fl} (h1:FLA w A L) (hb:Below C w w') (hC:w.heap.size ≤ C):FLA w' A L:=by
 intro k hk
 obtain ⟨b,off,rfl,h2,h3⟩:=h1 k hk
 have hlt:b < w.heap.size:=World.block_lt_of_cell? w _ h2
 exact ⟨b,off,rfl,(hb.cell (p:=⟨b,off+k * 2,none⟩) (by show b < C; omega)).trans h2,(hb.cell (p:=⟨b,off+k * 2+1,none⟩) (by show b < C; omega)).trans h3⟩
theorem FL.below {w w':World} {C:Nat} {v:Value} {L:List Fl} (h:FL w v L) (hb:Below C w w') (hC:w.heap.size ≤ C):FL w' v L:=by
 obtain ⟨A,cap,rfl,hc,h1⟩:=h
 exact ⟨A,cap,rfl,hc,h1.below hb hC⟩
theorem FLA.elem {w wr:World} {A:Option Addr} {L:List Fl} (h:FLA w A L) (hT:Tiny L) (hb:Below w.heap.size w wr) (k:Nat) (hk:k < L.length) :
  ∃ b off n v,A = some ⟨b,off,none⟩∧Box (L[k]? = some (n,v))∧n.size ≤ 1000000∧v.size ≤ 1000000∧b < w.heap.size∧wr.cell? ⟨b,off+k * 2,none⟩ = some (.string n)∧wr.cell? ⟨b,off+k * 2+1,none⟩ = some (.string v):=by
 obtain ⟨b,off,rfl,h2,h3⟩:=h k hk
 have hlt:b < w.heap.size:=World.block_lt_of_cell? w _ h2
 have hs:=hT.2 L[k] (List.getElem_mem hk)
 exact ⟨b,off,L[k].1,L[k].2,rfl,⟨by rw [List.getElem?_eq_getElem hk]⟩,hs.1,hs.2,hlt,(hb.cell (p:=⟨b,off+k * 2,none⟩) hlt).trans h2,(hb.cell (p:=⟨b,off+k * 2+1,none⟩) hlt).trans h3⟩
theorem take_snocF {α:Type} (L:List α) (k:Nat) (f:α) (h:L[k]? = some f):L.take (k+1) = L.take k++[f]:=by
 rw [List.take_add_one,h]; rfl
end Go.Proofs.YtknhacbfddggpaaGreatDoor
namespace Go.Proofs.YtknhacbfddggpaaGreatDoor
open Go.RowKit
set_option maxHeartbeats 400000 in
theorem hBlank_any (c:UInt8) (w:World) :
  Calls Tryz.prog 200 #[.int .u8 (c.toNat:Int)] w fun e w'=>e = .returned (.bool (blk c))∧w' = w:=by
 have H:Hid (blk c = (((c.toNat:Int) == 32) || ((c.toNat:Int) == 9))):=by
  have e1:=u8eq c 32
  have e2:=u8eq c 9
  show _ = _
  unfold blk
  rw [← e1,← e2]; rfl
 go_enter Tryz.func200,Tryz.ntmps200
 go_wp2
 all_goals
  go_ret
  exact ⟨ret_bool (by rw [H.out]; try simp [*]),rfl⟩
theorem nameS_false (l:List UInt8) (h:l.all nameC = false):nameS l = false:=by unfold nameS; rw [h,Bool.and_false]
theorem nameS_end (s:ByteArray) (h:s.data.toList.all nameC = true):nameS s.data.toList = !(s.toList.isEmpty):=by unfold nameS; rw [h,Bool.and_true,ByteArray.toList_eq]
set_option maxHeartbeats 800000 in
theorem isName_any (s:ByteArray) (w:World) (hl:s.size ≤ 1000000) :
  Calls Tryz.prog 160 #[.string s] w fun e w'=>e = .returned (.bool (nameS s.data.toList))∧w' = w:=by
 go_enter Tryz.func160,Tryz.ntmps160
 go_wp2
 go_loop [6] (fun i=>∃ k:Nat,k ≤ s.size∧i = .int .i64 k∧Box ((s.data.toList.take k).all nameC = true)) (fun i=>s.size - (intOf i).toNat)
 case atStart=>exact ⟨0,Nat.zero_le _,rfl,⟨rfl⟩⟩
 case round =>
  obtain ⟨k,hk,rfl,HA⟩:=hrel
  by_cases hlt:k < s.size
  ·cases hc:nameC s[k]
   ·have HF:Box (nameS s.data.toList = false):=⟨nameS_false _ (all_stop s k hlt hc)⟩
    have hx:=nameC_no _ hc
    clear hc HA
    rcases hx with x1 | ⟨x1,x2⟩ | ⟨x1,x2,x3⟩
    all_goals
     go_wp2
     go_ret
     exact ⟨ret_bool HF.out.symm,rfl⟩
   ·have HA':Box ((s.data.toList.take (k+1)).all nameC = true):=⟨all_on s k hlt HA.out hc⟩
    obtain ⟨x1,x2,x3⟩:=nameC_yes _ hc
    clear hc HA
    go_wp2
    go_round
    case rel=>exact ⟨k+1,by omega,by go_num,HA'⟩
    case measure=>simp [intOf]; omega
  ·have HF:Box (nameS s.data.toList = !(s.toList.isEmpty)):=⟨nameS_end s (by rw [← take_all s k hlt]; exact HA.out)⟩
   clear HA
   go_wp2
   go_ret
   exact ⟨ret_bool HF.out.symm,rfl⟩
theorem says_false (l:List UInt8) (h:l.all sayC = false):saysS l = false:=by unfold saysS; rw [h,Bool.false_and]
theorem says_end (l:List UInt8) (h:l.all sayC = true):saysS l = decide (trimS l = l):=by unfold saysS; rw [h,Bool.true_and]
theorem says_ends (s:ByteArray) (h:s.data.toList.all sayC = true) (h0:0 < s.size):saysS s.data.toList = (!blk s[0] && !blk s[s.size - 1]):=by
 rw [says_end _ h,Bool.eq_iff_iff,decide_eq_true_iff,trim_iff]
 have e1:s.data.toList.head? = some s[0]:=by rw [head_split s h0]; rfl
 have e2:s.data.toList.getLast? = some s[s.size - 1]:=by rw [last_split s h0]; simp
 rw [e1,e2]
 simp
set_option maxHeartbeats 800000 in
theorem maySay_any (s:ByteArray) (w:World) (hl:s.size ≤ 1000000) :
  Calls Tryz.prog 162 #[.string s] w fun e w'=>e = .returned (.bool (saysS s.data.toList))∧w' = w:=by
 go_enter Tryz.func162,Tryz.ntmps162
 go_wp2
 go_loop [6] (fun i=>∃ k:Nat,k ≤ s.size∧i = .int .i64 k∧Box ((s.data.toList.take k).all sayC = true)) (fun i=>s.size - (intOf i).toNat)
 case atStart=>exact ⟨0,Nat.zero_le _,rfl,⟨rfl⟩⟩
 case round =>
  obtain ⟨k,hk,rfl,HA⟩:=hrel
  by_cases hlt:k < s.size
  ·cases hc:sayC s[k]
   ·have HF:Box (saysS s.data.toList = false):=⟨says_false _ (all_stop s k hlt hc)⟩
    have hx:=sayC_no _ hc
    clear hc HA
    rcases hx with ⟨x1,x2⟩ | ⟨x1,x2⟩
    all_goals
     go_wp2
     go_ret
     exact ⟨ret_bool HF.out.symm,rfl⟩
   ·have HA':Box ((s.data.toList.take (k+1)).all sayC = true):=⟨all_on s k hlt HA.out hc⟩
    have hx:=sayC_yes _ hc
    clear hc HA
    rcases hx with ⟨x1,x2⟩ | ⟨x1,x2,x3⟩
    all_goals
     go_wp2
     go_round
     case rel=>exact ⟨k+1,by omega,by go_num,HA'⟩
     case measure=>simp [intOf]; omega
  ·have HB:Box (s.data.toList.all sayC = true):=⟨by rw [← take_all s k hlt]; exact HA.out⟩
   clear HA
   by_cases h0:s.size = 0
   ·have HF:Box (saysS s.data.toList = true):=⟨by rw [data_nil s h0]; rfl⟩
    have he:=empty_of s h0
    go_wp2
    go_ret
    exact ⟨ret_bool HF.out.symm,rfl⟩
   ·have HF:Box (saysS s.data.toList = (!blk s[0] && !blk s[s.size - 1])):=⟨says_ends s HB.out (by omega)⟩
    have he:=nonempty_of s h0
    have hp:0 < s.size:=by omega
    clear HB
    cases hb0:blk s[0]
    ·cases hb1:blk s[s.size - 1]
     ·have HF':Box (saysS s.data.toList = true):=⟨by rw [HF.out,hb0,hb1]; rfl⟩
      clear HF
      go_wp2_with (go_at_call 200; refine (hBlank_any _ _).mono ?_; rintro e w' ⟨rfl,rfl⟩)
      go_ret
      exact ⟨ret_bool HF'.out.symm,rfl⟩
     ·have HF':Box (saysS s.data.toList = false):=⟨by rw [HF.out,hb0,hb1]; rfl⟩
      clear HF
      go_wp2_with (go_at_call 200; refine (hBlank_any _ _).mono ?_; rintro e w' ⟨rfl,rfl⟩)
      go_ret
      exact ⟨ret_bool HF'.out.symm,rfl⟩
    ·have HF':Box (saysS s.data.toList = false):=⟨by rw [HF.out,hb0]; rfl⟩
     clear HF
     go_wp2_with (go_at_call 200; refine (hBlank_any _ _).mono ?_; rintro e w' ⟨rfl,rfl⟩)
     go_ret
     exact ⟨ret_bool HF'.out.symm,rfl⟩
end Go.Proofs.YtknhacbfddggpaaGreatDoor
namespace Go.Proofs.YtknhacbfddggpaaGreatDoor
open Go.RowKit
end Go.Proofs.YtknhacbfddggpaaGreatDoor
namespace Go.Proofs.YtknhacbfddggpaaGreatDoor
open Go.RowKit
def OwnG (w:World) (B:Nat) (v:Value) (l:List UInt8):Prop:=
 ∃ g cap cur fz,v = .slice (some ⟨g,0,none⟩) l.length cap∧B ≤ g∧w.heap[g]? = some (.cells cur 5 fz)∧(cur.size ≤ fz.1 ∨ fz.2 = 0)∧l.length ≤ cap∧cap ≤ maxLen∧cur.size = cap∧cur.toList.take l.length = cs l
theorem thaw {w:World} {g:Nat} {cur:Array Value} {t:TypeId} {fz:Nat × Nat} (hg:w.heap[g]? = some (.cells cur t fz)) (hf:cur.size ≤ fz.1 ∨ fz.2 = 0) (k:Nat) (hk:k < cur.size):w.frozen? ⟨g,k,none⟩ = false:=by
 obtain ⟨lo,hi⟩:=fz
 simp only [World.frozen?,hg]
 rcases hf with hf | hf
 ·have:decide (lo ≤ k) = false:=decide_eq_false (by simp at hf; omega)
  rw [this]; rfl
 ·have:decide (k < hi) = false:=decide_eq_false (by simp at hf; omega)
  rw [this,Bool.and_false]
theorem OwnG.cell {w:World} {B g n cap:Nat} {l:List UInt8} (h:OwnG w B (.slice (some ⟨g,0,none⟩) n cap) l) (k:Nat) (hk:k < l.length):w.cell? ⟨g,k,none⟩ = some (.int .u8 (l[k].toNat:Int))∧w.frozen? ⟨g,k,none⟩ = false:=by
 obtain ⟨g',cap',cur,fz,hv,_,hg,hf,hc,_,hs,ht⟩:=h
 simp only [Value.slice.injEq,Option.some.injEq,Addr.mk.injEq,and_true] at hv
 obtain ⟨rfl,_,rfl⟩:=hv
 refine ⟨?_,thaw hg hf k (by omega)⟩
 have hks:k < cur.size:=by omega
 have e:(cur.toList.take l.length)[k]? = (cs l)[k]?:=by rw [ht]
 rw [List.getElem?_take,if_pos hk] at e
 simp only [World.cell?,hg]
 rw [← Array.getElem?_toList,e]
 simp [cs,List.getElem?_eq_getElem hk]
theorem OwnG.len {w:World} {B g n cap:Nat} {l:List UInt8} (h:OwnG w B (.slice (some ⟨g,0,none⟩) n cap) l):n = l.length∧l.length ≤ cap∧B ≤ g∧g < w.heap.size:=by
 obtain ⟨g',cap',cur,fz,hv,hB,hg,hf,hc,_,hs,ht⟩:=h
 simp only [Value.slice.injEq,Option.some.injEq,Addr.mk.injEq,and_true] at hv
 obtain ⟨rfl,h1,rfl⟩:=hv
 exact ⟨h1,hc,hB,(Array.getElem?_eq_some_iff.1 hg).1⟩
theorem OwnG.set {w:World} {B g n cap:Nat} {l:List UInt8} (h:OwnG w B (.slice (some ⟨g,0,none⟩) n cap) l) (k:Nat) (c:UInt8):OwnG (w.setCell ⟨g,k,none⟩ (.int .u8 (c.toNat:Int))) B (.slice (some ⟨g,0,none⟩) n cap) (l.set k c):=by
 obtain ⟨g',cap',cur,fz,hv,hB,hg,hf,hc,hm,hs,ht⟩:=h
 simp only [Value.slice.injEq,Option.some.injEq,Addr.mk.injEq,and_true] at hv
 obtain ⟨rfl,rfl,rfl⟩:=hv
 refine ⟨g,cap,cur.setIfInBounds k (.int .u8 (c.toNat:Int)),fz,by rw [List.length_set],hB,?_,by simpa using hf,by simpa using hc,hm,by simpa using hs,?_⟩
 ·rw [setCell_eq_setRow w g k cur _ fz _ hg]
  exact setRow_heap w g cur _ _ fz hg
 ·rw [List.length_set,Array.toList_setIfInBounds,List.take_set,ht]
  simp [cs,List.map_set]
theorem OwnG.below {w w':World} {B C:Nat} {v:Value} {l:List UInt8} (h:OwnG w B v l) (hb:Below C w w') (hC:w.heap.size ≤ C):OwnG w' B v l:=by
 obtain ⟨g,cap,cur,fz,hv,hB,hg,hr⟩:=h
 refine ⟨g,cap,cur,fz,hv,hB,?_,hr⟩
 rw [hb.block g (by have:=(Array.getElem?_eq_some_iff.1 hg).1; omega)]
 exact hg
theorem OwnG.string {w:World} {B:Nat} {v:Value} {l:List UInt8} (h:OwnG w B v l):(convert 147 9 v).run Tryz.prog w = .ok (.string ⟨l.toArray⟩) w:=by
 have h':=h
 obtain ⟨g,cap,cur,fz,rfl,_⟩:=h
 refine run_convert_bytes_back w _ _ 5 ⟨g,0,none⟩ cap l Tryz.underlying147 Tryz.underlying5 Tryz.underlying9 (fun j hj=>?_)
 rw [Addr.add_lit]
 simpa using (h'.cell j hj).1
theorem run_bytes (W:World) (s:ByteArray):(convert 9 147 (.string s)).run Tryz.prog W = .ok (.slice (some ⟨W.heap.size,0,none⟩) s.size (grownCap W s.size 0 5)) (W.drew.alloc (.cells (bytesRow s (grownCap W s.size 0 5)) 5 ((bytesRow s (grownCap W s.size 0 5)).size,(bytesRow s (grownCap W s.size 0 5)).size+1))):=
 run_bytes_of_string W _ _ _ s Tryz.underlying9 Tryz.underlying147 Tryz.underlying5
theorem OwnG.bytes (W w':World) (B:Nat) (s:ByteArray) (hB:B ≤ W.heap.size) (hl:s.size ≤ 1000000000) (e:w'.heap = W.heap.push (.cells (bytesRow s (grownCap W s.size 0 5)) 5 ((bytesRow s (grownCap W s.size 0 5)).size,(bytesRow s (grownCap W s.size 0 5)).size+1))) :
  OwnG w' B (.slice (some ⟨W.heap.size,0,none⟩) s.size (grownCap W s.size 0 5)) s.data.toList:=by
 have hge:=grownCap_ge W s.size 0 5
 have hsz:(bytesRow s (grownCap W s.size 0 5)).size = grownCap W s.size 0 5:=by
  have hd:s.data.size = s.size:=rfl
  simp [bytesRow,hd]; omega
 refine ⟨W.heap.size,_,bytesRow s (grownCap W s.size 0 5),((bytesRow s (grownCap W s.size 0 5)).size,(bytesRow s (grownCap W s.size 0 5)).size+1),by rw [size_list],hB,by rw [e]; simp,.inl (Nat.le_refl _),by rw [size_list]; exact hge,grownCap_le_maxLen W _ 0 _ (by unfold maxLen; omega),hsz,?_⟩
 have hd:(s.data.toList).length = (cs s.data.toList).length:=by simp [cs]
 rw [hd]
 simp [bytesRow,cs]
theorem storeG (g o:Nat) (t:TypeId) (fz:Nat × Nat) (vs:List Value):∀ (i:Nat) (cur:Array Value) (w:World),w.heap[g]? = some (.cells cur t fz) → (cur.size ≤ fz.1 ∨ fz.2 = 0) → o+i+vs.length ≤ cur.size → (∀ v ∈ vs,v.oneCell' = true) →
  (storeCells ⟨g,o,none⟩ vs i).run Tryz.prog w = .ok () (w.setRow g (cur.toList.take (o+i)++vs++cur.toList.drop (o+i+vs.length)).toArray):=by
 induction vs with
 | nil =>
  intro i cur w hg _ _ _
  have e:(cur.toList.take (o+i)++[]++cur.toList.drop (o+i+0)).toArray = cur:=by simp
  rw [List.length_nil,e,setRow_self w g cur t fz hg]; rfl
 | cons v vs ih =>
  intro i cur w hg hf hl h1
  rw [List.length_cons] at hl
  have hlt:o+i < cur.size:=by omega
  have ha:(⟨g,o,none⟩:Addr).add i = ⟨g,o+i,none⟩:=Addr.add_lit _ _ _
  have one:(store ((⟨g,o,none⟩:Addr).add i) v).run Tryz.prog w = .ok () (w.setRow g (cur.setIfInBounds (o+i) v)):=by
   rw [ha,run_store Tryz.prog w _ v _ (h1 v List.mem_cons_self)]
   have hc:w.cell? ⟨g,o+i,none⟩ = some cur[o+i]:=by simp [World.cell?,hg,hlt]
   rw [hc]
   simp [thaw hg hf (o+i) hlt,setCell_eq_setRow w g (o+i) cur t fz v hg]
  have more:=ih (i+1) (cur.setIfInBounds (o+i) v) (w.setRow g (cur.setIfInBounds (o+i) v)) (setRow_heap w g cur _ t _ hg) (by simpa using hf) (by simpa using (by omega:o+(i+1)+vs.length ≤ cur.size)) (fun x hx=>h1 x (List.mem_cons_of_mem _ hx))
  have seg:=list_seg_step cur.toList (o+i) v vs (by rw [Array.length_toList]; omega)
  simp only [storeCells,Sem.run_bind,one,Result.andThen_ok,more,setRow_setRow]
  rw [Array.toList_setIfInBounds,← Nat.add_assoc,seg,List.length_cons]
theorem OwnG.app {w:World} {B:Nat} {v:Value} {l:List UInt8} (h:OwnG w B v l) (s:ByteArray) (ty:TypeId) (hl:l.length+s.size ≤ 1000000000) (hB:B ≤ w.heap.size) :
  ∃ v' w',(Builtin.append_ #[147,9] ty #[v,.string s]).run Tryz.prog w = .ok v' w'∧OwnG w' B v' (l++s.data.toList)∧w.grownBy w' v.ownBlock∧(v'.ownBlock = v.ownBlock ∨ v'.ownBlock = some w.heap.size):=by
 obtain ⟨i0,hi,hz0,hz1,hz2⟩:=info_parts Tryz.infoByte
 obtain ⟨g,cap,cur,fz,rfl,hBg,hg,hf,hc,hm,hs,ht⟩:=h
 have hlen:(l++s.data.toList).length = l.length+s.size:=by rw [List.length_append,size_list]
 have hsc:Lib.strCells s = cs s.data.toList:=rfl
 have hscl:(Lib.strCells s).length = s.size:=by rw [hsc,cs_length,size_list]
 by_cases hroom:l.length+s.size ≤ cap
 ·have hst:=storeG g l.length 5 fz (Lib.strCells s) 0 cur w hg hf (by rw [hscl]; omega) (Lib.strCells_oneCell s)
  rw [Nat.add_zero,hscl] at hst
  have hfst:=Lib.run_firstCells_string (P:=Tryz.prog) w 1 s
  refine ⟨.slice (some ⟨g,0,none⟩) (l.length+s.size) cap,_,by simp [Builtin.append_,run_underlying Tryz.underlying147,run_underlying Tryz.underlying9,sizeOf,typeInfo,hi,hz1,Builtin.lenOf,hroom,hfst,Addr.add_lit,hst]; rfl,⟨g,cap,_,fz,by rw [hlen],hBg,setRow_heap w g cur _ _ fz hg,?_,by omega,hm,?_,?_⟩,⟨rfl,rfl,rfl,by simp,fun k _ hk=>setRow_other w g k _ (fun e=>hk (by simp [Value.ownBlock,e]))⟩,.inl rfl⟩
  ·simp only [List.size_toArray,List.length_append,List.length_take,List.length_drop,Array.length_toList,hscl]
   rcases hf with hf | hf
   ·exact .inl (by omega)
   ·exact .inr hf
  ·simp only [List.size_toArray,List.length_append,List.length_take,List.length_drop,Array.length_toList,hscl]
   omega
  ·have hh:(cs (l++s.data.toList)).length = l.length+s.size:=by rw [cs_length,hlen]
   rw [ht,hsc,hlen,← List.append_assoc,← cs_append,← hh]
   exact List.take_left
 ·have holds:∀ j u,(cs l)[j]? = some u → w.cell? ((⟨g,0,none⟩:Addr).add j) = some u:=by
   intro j u hu
   have hj:j < l.length:=by simpa [cs] using (List.getElem?_eq_some_iff.1 hu).1
   rw [Addr.add_lit,Nat.zero_add]
   have e:(cur.toList.take l.length)[j]? = (cs l)[j]?:=by rw [ht]
   rw [List.getElem?_take,if_pos hj,hu] at e
   rw [Array.getElem?_toList] at e
   simp [World.cell?,hg,e]
  have hr:=Lib.run_append_grow_string (P:=Tryz.prog) w _ _ ty 5 i0 (.int .u8 0) Tryz.underlying147 Tryz.underlying9 hi hz0 ⟨g,0,none⟩ l.length cap (cs l) (by rw [hz1,cs_length,Nat.mul_one]) holds s (by omega) (by omega) (by rw [hz2]; exact growslice_fits (by omega) (by omega))
  have hge:=grownCap_ge w (l.length+s.size) cap 5
  refine ⟨_,_,hr,⟨w.heap.size,_,_,(0,0),by rw [hlen],hB,heap_alloc_new w.drew _,.inr rfl,by rw [hlen]; exact hge,grownCap_le_maxLen w _ cap _ (by unfold maxLen; omega),?_,?_⟩,⟨rfl,rfl,rfl,by simp,fun k hk _=>Below.heap_alloc w.drew _ k hk⟩,.inr rfl⟩
  ·have hz:(Value.int IntKind.u8 0).cells.size = 1:=rfl
   simp only [Array.size_append,List.size_toArray,size_zeroCells,hz,cs_length,hscl]
   omega
  ·have hh:(cs (l++s.data.toList)).length = l.length+s.size:=by rw [cs_length,hlen]
   rw [hsc,hlen,← hh,Array.toList_append,Array.toList_append,← cs_append]
   exact List.take_left
theorem wp_appG {ops:Array Oper} {rest:List Oper} {o:Oper} {a:Act} {Q:Exit → Act → World → Prop} (W w0:World) (hgd:o.guard = none) (s x:Operand) (ho:o.op = .call { callee:=.builtin .append,args:=#[s,x],argTypes:=#[147,9] })
  (B:Nat) (v:Value) (l:List UInt8) (hs:a.eval s = v) (hown:OwnG W B v l) (t:ByteArray) (hx:a.eval x = .string t) (hl:l.length+t.size ≤ 1000000000) (hB:B ≤ W.heap.size) (hb:Below B w0 W)
  (h:∀ v' w',OwnG w' B v' (l++t.data.toList) → Below B w0 w' → W.grownBy w' v.ownBlock → (v'.ownBlock = v.ownBlock ∨ v'.ownBlock = some W.heap.size) → wpList Tryz.prog ops Q rest (a.put o.dst v') w'):wpList Tryz.prog ops Q (o :: rest) a W:=by
 refine wpList_plain hgd fun K hK=>?_
 obtain ⟨v',w',hr,h2,h3,h4⟩:=hown.app t o.type hl hB
 unfold Oper.wp execOp
 simp only [ho,resolve,invoke,builtin,Sem.run_bind,Sem.run_pure,Result.andThen_ok,List.map_toArray,List.map_cons,List.map_nil,hs,hx,hr]
 refine hK _ _ (h v' w' h2 (hb.grown h3 hB ?_) h3 h4)
 obtain ⟨g,cap,cur,fz,rfl,hBg,_⟩:=hown
 intro k hk
 simp [Value.ownBlock] at hk
 omega
theorem grown_cell {w w':World} {row:Option Nat} (h:w.grownBy w' row) (a:Addr) (ha:a.block < w.heap.size) (hne:row ≠ some a.block):w'.cell? a = w.cell? a:=
 World.cell?_of_block (w:=w) (h.block a.block ha (fun e=>hne e.symm))
end Go.Proofs.YtknhacbfddggpaaGreatDoor
namespace Go.Proofs.YtknhacbfddggpaaGreatDoor
open Go.RowKit
def smallTo (l:List UInt8) (k:Nat):List UInt8:=smallS (l.take k)++l.drop k
theorem smallTo_length (l:List UInt8) (k:Nat):(smallTo l k).length = l.length:=by
 simp [smallTo,smallS]; omega
theorem smallTo_get (s:ByteArray) (k:Nat) (h:k < s.size) (hk2:k < (smallTo s.data.toList k).length):(smallTo s.data.toList k)[k]'hk2 = s[k]:=by
 have e:(smallS (s.data.toList.take k)).length = k:=by simp [smallS]; omega
 have h2:(smallTo s.data.toList k)[k]? = some s[k]:=by
  unfold smallTo
  rw [List.getElem?_append_right (by rw [e]; exact Nat.le_refl _),e,Nat.sub_self,List.getElem?_drop,Nat.add_zero,getL s k h]
 exact (List.getElem?_eq_some_iff.1 h2).2
theorem smallTo_on (s:ByteArray) (k:Nat) (h:k < s.size):(smallTo s.data.toList k).set k (smallC s[k]) = smallTo s.data.toList (k+1):=by
 have e:(smallS (s.data.toList.take k)).length = k:=by simp [smallS]; omega
 have hd:s.data.toList.drop k = s[k] :: s.data.toList.drop (k+1):=by
  rw [List.drop_eq_getElem_cons (by rw [size_list]; exact h)]; rfl
 unfold smallTo
 rw [take_snoc s k h,List.set_append_right _ _ (by rw [e]; exact Nat.le_refl _),e,Nat.sub_self,hd]
 simp [smallS]
theorem smallTo_keep (s:ByteArray) (k:Nat) (h:k < s.size) (hc:smallC s[k] = s[k]):smallTo s.data.toList (k+1) = smallTo s.data.toList k:=by
 rw [← smallTo_on s k h,hc]
 have hl:k < (smallTo s.data.toList k).length:=by rw [smallTo_length,size_list]; exact h
 have:=smallTo_get s k h hl
 rw [← this]
 exact List.set_getElem_self _
theorem smallTo_end (s:ByteArray) (k:Nat) (h:¬ k < s.size):smallTo s.data.toList k = smallS s.data.toList:=by
 unfold smallTo
 rw [take_all s k h,List.drop_eq_nil_of_le (by rw [size_list]; omega),List.append_nil]
set_option maxHeartbeats 1600000 in
set_option maxRecDepth 100000 in
theorem small_any (s:ByteArray) (w:World) (hl:s.size ≤ 100000000) :
  Calls Tryz.prog 75 #[.string s] w fun e w'=>e = .returned (.string ⟨(smallS s.data.toList).toArray⟩)∧Below w.heap.size w w':=by
 have hcv:=run_bytes w s
 go_enter Tryz.func75,Tryz.ntmps75
 go_wp2
 clear hcv
 have hown0:=fun w' e=>OwnG.bytes w w' w.heap.size s (Nat.le_refl _) (by omega) e
 have HO:=Box.mk hown0
 clear hown0
 generalize grownCap w s.size 0 5 = cap at HO
 generalize hcells:Obj.cells (bytesRow s cap) 5 ((bytesRow s cap).size,(bytesRow s cap).size+1) = ob at HO
 have HC:=Box.mk hcells
 clear hcells
 go_loopw [10] (fun i wr=>∃ k:Nat,k ≤ s.size∧i = .int .i64 k∧OwnG wr w.heap.size (.slice (some ⟨w.heap.size,0,none⟩) s.size cap) (smallTo s.data.toList k)∧Below w.heap.size w wr) (fun i _=>s.size - (intOf i).toNat)
 case atStart=>exact ⟨0,Nat.zero_le _,rfl,HO.out _ rfl,((Below.refl _ _).alloc (Nat.le_refl _) _).drew⟩
 case round =>
  obtain ⟨k,hk,rfl,hown,hb⟩:=hrel
  have hcap:=hown.len.2.1
  rw [smallTo_length,size_list] at hcap
  by_cases hlt:k < s.size
  ·have hl':k < (smallTo s.data.toList k).length:=by rw [smallTo_length,size_list]; exact hlt
   have hc:=hown.cell k hl'
   rw [smallTo_get s k hlt hl'] at hc
   obtain ⟨hc1,hc2⟩:=hc
   have hbyte:(s[k].toNat:Int) < 256:=by have:=s[k].toNat_lt; omega
   by_cases hup:65 ≤ s[k].toNat∧s[k].toNat ≤ 90
   ·have HS:Box ((smallTo s.data.toList k).set k (smallC s[k]) = smallTo s.data.toList (k+1)):=⟨smallTo_on s k hlt⟩
    have HV:Box (((smallC s[k]).toNat:Int) = (s[k].toNat:Int)+32):=⟨smallC_yes _ hup⟩
    have u1:(65:Int) ≤ (s[k].toNat:Int):=by omega
    have u2:(s[k].toNat:Int) ≤ 90:=by omega
    have hw2:=hown.set k (smallC s[k])
    rw [HS.out,HV.out] at hw2
    have HW:=Box.mk hw2
    clear hw2 HS HV hup hown
    go_wp2
    go_roundw
    case rel=>exact ⟨k+1,by omega,by go_num,HW.out,hb.setCell (Nat.le_refl _) _⟩
    case measure=>simp [intOf]; omega
   ·have HS:Box (smallTo s.data.toList (k+1) = smallTo s.data.toList k):=⟨smallTo_keep s k hlt (smallC_no _ hup)⟩
    have hx:(s[k].toNat:Int) < 65 ∨ (65 ≤ (s[k].toNat:Int)∧90 < (s[k].toNat:Int)):=by omega
    clear hup
    rcases hx with u1 | ⟨u1,u2⟩
    all_goals
     go_wp2
     go_roundw
     case rel=>exact ⟨k+1,by omega,by go_num,by rw [HS.out]; exact hown,hb⟩
     case measure=>simp [intOf]; omega
  ·rw [smallTo_end s k hlt] at hown
   have hcv:=hown.string
   go_wp2
   go_ret
   exact ⟨rfl,hb⟩
theorem small_str (s:ByteArray) (w:World) (hl:s.size ≤ 100000000) :
  Calls Tryz.prog 75 #[.string s] w fun e w'=>∃ t:ByteArray,e = .returned (.string t)∧t.data.toList = smallS s.data.toList∧Below w.heap.size w w':=by
 refine (small_any s w hl).mono ?_
 rintro e w' ⟨rfl,hb⟩
 exact ⟨_,rfl,rfl,hb⟩
end Go.Proofs.YtknhacbfddggpaaGreatDoor
