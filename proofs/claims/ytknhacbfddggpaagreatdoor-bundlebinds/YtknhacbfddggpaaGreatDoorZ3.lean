import Derived.Test.YtknhacbfddggpaaGreatDoorZB0
import Derived.Lib.Strings
namespace Go.Proofs.YtknhacbfddggpaaGreatDoor.Tx
open Go.RowKit
def isBlank (c:UInt8):Bool:=c == 32 || c == 9
def isLetter (c:UInt8):Bool:=33 ≤ c && c ≤ 126 && c != 61
theorem u8eq (c d:UInt8):((c.toNat:Int) == (d.toNat:Int)) = (c == d):=by
 rw [Bool.eq_iff_iff]; simp [← UInt8.toNat_inj]; omega
set_option maxHeartbeats 400000 in
theorem isBlank_any (c:UInt8) (w:World) :
  Calls Tryz.prog 218 #[.int .u8 (c.toNat:Int)] w fun e w'=>e = .returned (.bool (isBlank c))∧w' = w:=by
 have e1:=u8eq c 32
 have e2:=u8eq c 9
 have H:Hid (isBlank c = (((c.toNat:Int) == 32) || ((c.toNat:Int) == 9))):=by
  show _ = _
  unfold isBlank
  rw [← e1,← e2]; rfl
 clear e1 e2
 go_enter Tryz.func218,Tryz.ntmps218
 go_wp2
 all_goals
  go_ret
  exact ⟨ret_bool (by rw [H.out]; try simp [*]),rfl⟩
set_option maxHeartbeats 400000 in
theorem isLetter_any (c:UInt8) (w:World) :
  Calls Tryz.prog 217 #[.int .u8 (c.toNat:Int)] w fun e w'=>e = .returned (.bool (isLetter c))∧w' = w:=by
 have H:Hid (isLetter c = (decide (33 ≤ (c.toNat:Int)) && decide ((c.toNat:Int) ≤ 126) && !((c.toNat:Int) == 61))):=by
  show _ = _
  have e1:=u8eq c 61
  unfold isLetter
  have e2:decide (33 ≤ (c.toNat:Int)) = decide (33 ≤ c):=by rw [decide_eq_decide,UInt8.le_iff_toNat_le]; show (33:Int) ≤ _ ↔ 33 ≤ c.toNat; omega
  have e3:decide ((c.toNat:Int) ≤ 126) = decide (c ≤ 126):=by rw [decide_eq_decide,UInt8.le_iff_toNat_le]; show _ ≤ (126:Int) ↔ c.toNat ≤ 126; omega
  rw [e2,e3,show (61:Int) = ((61:UInt8).toNat:Int) from rfl,e1]; rfl
 go_enter Tryz.func217,Tryz.ntmps217
 go_wp2
 all_goals
  go_ret
  refine ⟨ret_bool ?_,rfl⟩
  rw [H.out]
  have h0:True:=trivial
  simp [*,bne]
  try omega
end Go.Proofs.YtknhacbfddggpaaGreatDoor.Tx
namespace Go.Proofs.YtknhacbfddggpaaGreatDoor.Tx
open Go.RowKit
def digits:List UInt8:=[48,49,50,51,52,53,54,55,56,57,65,66,67,68,69,70]
def hexd (n:Nat):UInt8:=digits.getD n 0
theorem hexd_at (i:Nat) (h:i < (ByteArray.mk #[48,49,50,51,52,53,54,55,56,57,65,66,67,68,69,70]).size):(ByteArray.mk #[48,49,50,51,52,53,54,55,56,57,65,66,67,68,69,70])[i] = hexd i:=by
 have h':i < 16:=h
 have:∀ i:Fin 16,(ByteArray.mk #[48,49,50,51,52,53,54,55,56,57,65,66,67,68,69,70])[i.val]'(i.isLt) = hexd i.val:=by decide
 exact this ⟨i,h'⟩
def quotedL (c:UInt8) (last:Bool):List UInt8:=if isLetter c || (isBlank c && !last) then [c] else [61,hexd (c.toNat / 16),hexd (c.toNat % 16)]
theorem quotedL_length (c:UInt8) (last:Bool):(quotedL c last).length ≤ 3:=by unfold quotedL; split <;> simp
set_option maxHeartbeats 400000 in
theorem quoted_plain (c:UInt8) (last:Bool) (w:World) (h:(isLetter c || (isBlank c && !last)) = true) :
  Calls Tryz.prog 192 #[.int .u8 (c.toNat:Int),.bool last] w fun e w'=>∃ v,e = .returned v∧Own w' w.heap.size v [c]∧Below w.heap.size w w':=by
 by_cases h1:isLetter c = true
 ·clear h
  go_enter Tryz.func192,Tryz.ntmps192
  go_wp2_with (first | (go_at_call 217; refine (isLetter_any _ _).mono ?_; rintro e w' ⟨rfl,rfl⟩) | (go_at_call 218; refine (isBlank_any _ _).mono ?_; rintro e w' ⟨rfl,rfl⟩))
  go_ret
  exact ⟨_,rfl,Own.lit _ _ [c] 1 rfl (Nat.le_refl _) (by decide),(Below.refl _ _).alloc (Nat.le_refl _) _⟩
 ·have h1:isLetter c = false:=by simpa using h1
  have h2:isBlank c = true:=by rw [h1] at h; simp at h; exact h.1
  have h3:last = false:=by rw [h1] at h; simp at h; exact h.2
  subst h3
  clear h
  go_enter Tryz.func192,Tryz.ntmps192
  go_wp2_with (first | (go_at_call 217; refine (isLetter_any _ _).mono ?_; rintro e w' ⟨rfl,rfl⟩) | (go_at_call 218; refine (isBlank_any _ _).mono ?_; rintro e w' ⟨rfl,rfl⟩))
  go_ret
  exact ⟨_,rfl,Own.lit _ _ [c] 1 rfl (Nat.le_refl _) (by decide),(Below.refl _ _).alloc (Nat.le_refl _) _⟩
set_option maxHeartbeats 400000 in
theorem quoted_code (c:UInt8) (last:Bool) (w:World) (h:(isLetter c || (isBlank c && !last)) = false) :
  Calls Tryz.prog 192 #[.int .u8 (c.toNat:Int),.bool last] w fun e w'=>∃ v,e = .returned v∧Own w' w.heap.size v [61,hexd (c.toNat / 16),hexd (c.toNat % 16)]∧Below w.heap.size w w':=by
 have hb:(c.toNat:Int) < 256:=by have:=c.toNat_lt; omega
 have i1:0 ≤ (c.toNat:Int) / 16:=by omega
 have i2:(c.toNat:Int) / 16 < 16:=by omega
 have i3:0 ≤ (c.toNat:Int) % 16:=by omega
 have i4:(c.toNat:Int) % 16 < 16:=by omega
 have h1:isLetter c = false:=by cases hh:isLetter c <;> simp_all
 by_cases h2:isBlank c = true
 ·have h3:last = true:=by rw [h1,h2] at h; simpa using h
  subst h3
  clear h
  go_enter Tryz.func192,Tryz.ntmps192
  go_wp2_with (first | (go_at_call 217; refine (isLetter_any _ _).mono ?_; rintro e w' ⟨rfl,rfl⟩) | (go_at_call 218; refine (isBlank_any _ _).mono ?_; rintro e w' ⟨rfl,rfl⟩))
  go_region
  go_wp2
  go_ret
  simp only [hexd_at]
  exact ⟨_,rfl,Own.lit _ _ [61,_,_] 3 rfl (Nat.le_refl _) (by decide),((Below.refl _ _).alloc (Nat.le_refl _) _).drew⟩
 ·have h2:isBlank c = false:=by simpa using h2
  clear h
  go_enter Tryz.func192,Tryz.ntmps192
  go_wp2_with (first | (go_at_call 217; refine (isLetter_any _ _).mono ?_; rintro e w' ⟨rfl,rfl⟩) | (go_at_call 218; refine (isBlank_any _ _).mono ?_; rintro e w' ⟨rfl,rfl⟩))
  go_region
  go_wp2
  go_ret
  simp only [hexd_at]
  exact ⟨_,rfl,Own.lit _ _ [61,_,_] 3 rfl (Nat.le_refl _) (by decide),((Below.refl _ _).alloc (Nat.le_refl _) _).drew⟩
theorem quoted_any (c:UInt8) (last:Bool) (w:World) :
  Calls Tryz.prog 192 #[.int .u8 (c.toNat:Int),.bool last] w fun e w'=>∃ v,e = .returned v∧Own w' w.heap.size v (quotedL c last)∧Below w.heap.size w w':=by
 unfold quotedL
 cases h:(isLetter c || (isBlank c && !last))
 ·exact quoted_code c last w h
 ·exact quoted_plain c last w h
def inLinesTo (l:List UInt8):Nat → List UInt8
 | 0=>[]
 | k+1=>inLinesTo l k++[l.getD k 0]++if (k+1) % 76 = 0 ∨ k+1 = l.length then [13,10] else []
theorem inLinesTo_length (l:List UInt8) (k:Nat):(inLinesTo l k).length ≤ 3 * k:=by
 induction k with
 | zero=>simp [inLinesTo]
 | succ k ih=>simp only [inLinesTo,List.length_append,List.length_cons,List.length_nil]; split <;> simp <;> omega
theorem inLinesTo_cut (l:List UInt8) (k:Nat) (h:(k+1) % 76 = 0 ∨ k+1 = l.length):inLinesTo l (k+1) = inLinesTo l k++[l.getD k 0]++[13,10]:=by rw [inLinesTo,if_pos h]
theorem inLinesTo_on (l:List UInt8) (k:Nat) (h:¬ ((k+1) % 76 = 0 ∨ k+1 = l.length)):inLinesTo l (k+1) = inLinesTo l k++[l.getD k 0]:=by rw [inLinesTo,if_neg h,List.append_nil]
set_option maxHeartbeats 400000 in
theorem inLines_some (l:List UInt8) (g cap:Nat) (w:World) (hl:l.length ≤ 10000000) (hg:g < w.heap.size) (hc:∀ k (hk:k < l.length),w.cell? ⟨g,k,none⟩ = some (.int .u8 (l[k].toNat:Int))) :
  Calls Tryz.prog 194 #[.slice (some ⟨g,0,none⟩) l.length cap] w fun e w'=>e = .returned (.string ⟨(inLinesTo l l.length).toArray⟩)∧Below w.heap.size w w':=by
 go_enter Tryz.func194,Tryz.ntmps194
 go_wp2
 go_loopw [3,7] (fun v i wr=>∃ k:Nat,k ≤ l.length∧i = .int .i64 k∧Own wr w.heap.size v (inLinesTo l k)∧Below w.heap.size w wr) (fun _ i _=>l.length - (intOf i).toNat)
 case atStart=>exact ⟨0,Nat.zero_le _,rfl,Own.nil _ _,Below.refl _ _⟩
 case round =>
  obtain ⟨k,hk,rfl,hown,hb⟩:=hrel
  by_cases hlt:k < l.length
  ·have hcx:wr.cell? ⟨g,k,none⟩ = some (.int .u8 (l[k].toNat:Int)):=(hb.cell (p:=⟨g,k,none⟩) hg).trans (hc k hlt)
   have hlen:=inLinesTo_length l k
   have hsz:=hb.size
   have hgd:l.getD k 0 = l[k]:=by simp [hlt]
   have HG:Hid (l.getD k 0 = l[k]):=hgd
   clear hgd
   by_cases hcut:(k+1) % 76 = 0 ∨ k+1 = l.length
   ·have HE:Hid (inLinesTo l (k+1) = inLinesTo l k++[l[k]]++[13,10]):=by show _ = _; rw [inLinesTo_cut l k hcut,HG.out]
    by_cases h76:(k+1) % 76 = 0
    ·have n1:(((k:Int)+1) % 76 == 0) = true:=by rw [beq_iff_eq]; omega
     clear hcut h76
     go_wp2_with (first | (at_builtin; refine wp_app1 wr w _ rfl (.tmp 10) (.tmp 15) rfl w.heap.size _ (inLinesTo l k) rfl hown rfl l[k] rfl (by omega) hsz hb ?_; intro v' w1 hown1 hb1) | (at_builtin; refine wp_appS _ w rfl (.tmp 28) _ rfl w.heap.size _ _ rfl hown1 ⟨#[13,10]⟩ rfl (by simp [ByteArray.size]; omega) hb1.size hb1 ?_; intro v2 w2 hown2 hb2))
     go_roundw
     case rel=>exact ⟨k+1,by omega,by go_num,by rw [HE.out]; exact hown2,hb2⟩
     case measure=>simp [intOf]; omega
    ·have n1:(((k:Int)+1) % 76 == 0) = false:=by rw [beq_eq_false_iff_ne]; omega
     have n2:((k:Int)+1 == (l.length:Int)) = true:=by rw [beq_iff_eq]; omega
     clear hcut h76
     go_wp2_with (first | (at_builtin; refine wp_app1 wr w _ rfl (.tmp 10) (.tmp 15) rfl w.heap.size _ (inLinesTo l k) rfl hown rfl l[k] rfl (by omega) hsz hb ?_; intro v' w1 hown1 hb1) | (at_builtin; refine wp_appS _ w rfl (.tmp 28) _ rfl w.heap.size _ _ rfl hown1 ⟨#[13,10]⟩ rfl (by simp [ByteArray.size]; omega) hb1.size hb1 ?_; intro v2 w2 hown2 hb2))
     go_roundw
     case rel=>exact ⟨k+1,by omega,by go_num,by rw [HE.out]; exact hown2,hb2⟩
     case measure=>simp [intOf]; omega
   ·have HE:Hid (inLinesTo l (k+1) = inLinesTo l k++[l[k]]):=by show _ = _; rw [inLinesTo_on l k hcut,HG.out]
    have n1:(((k:Int)+1) % 76 == 0) = false:=by rw [beq_eq_false_iff_ne]; omega
    have n2:((k:Int)+1 == (l.length:Int)) = false:=by rw [beq_eq_false_iff_ne]; omega
    clear hcut
    go_wp2_with (first | (at_builtin; refine wp_app1 wr w _ rfl (.tmp 10) (.tmp 15) rfl w.heap.size _ (inLinesTo l k) rfl hown rfl l[k] rfl (by omega) hsz hb ?_; intro v' w1 hown1 hb1))
    go_roundw
    case rel=>exact ⟨k+1,by omega,by go_num,by rw [HE.out]; exact hown1,hb1⟩
    case measure=>simp [intOf]; omega
  ·have:k = l.length:=by omega
   subst this
   have hcv:=hown.string
   go_wp2
   go_ret
   exact ⟨rfl,hb⟩
end Go.Proofs.YtknhacbfddggpaaGreatDoor.Tx
namespace Go.Proofs.YtknhacbfddggpaaGreatDoor.Tx
open Go.RowKit
theorem wrap_i64_small (n:Int) (h0:0 ≤ n) (h:n < 9223372036854775808):IntKind.i64.wrap n = n:=by
 simp [IntKind.wrap,IntKind.bits,IntKind.signed]; omega
theorem or_i64 (i:Nat) (a b:Int) (ha:0 ≤ a) (hb:0 ≤ b) (hm:a % (2 ^ i:Nat) = 0) (hb2:b < (2 ^ i:Nat)) (h1:a+b < 9223372036854775808):bits .or .i64 a b = a+b:=by
 obtain ⟨m,rfl⟩:=Int.eq_ofNat_of_zero_le ha
 obtain ⟨n,rfl⟩:=Int.eq_ofNat_of_zero_le hb
 have e:=nat_join i m n (by omega) (by omega)
 show IntKind.i64.wrap ((BitVec.ofInt 64 (m:Int) ||| BitVec.ofInt 64 (n:Int)).toNat:Int) = _
 rw [BitVec.toNat_or,ofInt_u64 m (by omega),ofInt_u64 n (by omega),e,wrap_i64_small _ (by omega) (by omega)]
 omega
theorem and_i64 (i:Nat) (a:Int) (ha:0 ≤ a) (h1:a < 9223372036854775808) (hi:i ≤ 62):bits .and .i64 a ((2 ^ i - 1:Nat):Int) = a % (2 ^ i:Nat):=by
 obtain ⟨m,rfl⟩:=Int.eq_ofNat_of_zero_le ha
 have hp:2 ^ i ≤ 2 ^ 62:=Nat.pow_le_pow_right (by omega) hi
 have e:m &&& (2 ^ i - 1) = m % 2 ^ i:=Nat.and_two_pow_sub_one_eq_mod m i
 have hlt:m % 2 ^ i ≤ m:=Nat.mod_le _ _
 show IntKind.i64.wrap ((BitVec.ofInt 64 (m:Int) &&& BitVec.ofInt 64 ((2 ^ i - 1:Nat):Int)).toNat:Int) = _
 rw [BitVec.toNat_and,ofInt_u64 m (by omega),ofInt_u64 (2 ^ i - 1) (by omega),e,wrap_i64_small _ (by omega) (by omega)]
 omega
theorem and63 (a:Int) (ha:0 ≤ a) (h1:a < 9223372036854775808):bits .and .i64 a 63 = a % 64:=by simpa using and_i64 6 a ha h1 (by omega)
def letters:List UInt8:=[65,66,67,68,69,70,71,72,73,74,75,76,77,78,79,80,81,82,83,84,85,86,87,88,89,90,97,98,99,100,101,102,103,104,105,106,107,108,109,110,111,112,113,114,115,116,117,118,119,120,121,122,48,49,50,51,52,53,54,55,56,57,43,47]
def lett (n:Nat):UInt8:=letters.getD n 0
theorem lett_at (i:Nat) (h:i < (ByteArray.mk #[65,66,67,68,69,70,71,72,73,74,75,76,77,78,79,80,81,82,83,84,85,86,87,88,89,90,97,98,99,100,101,102,103,104,105,106,107,108,109,110,111,112,113,114,115,116,117,118,119,120,121,122,48,49,50,51,52,53,54,55,56,57,43,47]).size):(ByteArray.mk #[65,66,67,68,69,70,71,72,73,74,75,76,77,78,79,80,81,82,83,84,85,86,87,88,89,90,97,98,99,100,101,102,103,104,105,106,107,108,109,110,111,112,113,114,115,116,117,118,119,120,121,122,48,49,50,51,52,53,54,55,56,57,43,47])[i] = lett i:=by
 have h':i < 64:=h
 have:∀ i:Fin 64,(ByteArray.mk #[65,66,67,68,69,70,71,72,73,74,75,76,77,78,79,80,81,82,83,84,85,86,87,88,89,90,97,98,99,100,101,102,103,104,105,106,107,108,109,110,111,112,113,114,115,116,117,118,119,120,121,122,48,49,50,51,52,53,54,55,56,57,43,47])[i.val]'(i.isLt) = lett i.val:=by decide
 exact this ⟨i,h'⟩
def fourN (N n:Nat):List UInt8:=[lett (N / 262144 % 64),lett (N / 4096 % 64),if 2 ≤ n then lett (N / 64 % 64) else 61,if 3 ≤ n then lett (N % 64) else 61]
def bitsOf (b:List UInt8):Nat:=((b.getD 0 0).toNat * 256+(b.getD 1 0).toNat) * 256+(b.getD 2 0).toNat
def fourL (b:List UInt8):List UInt8:=fourN (bitsOf b) b.length
theorem fourL_length (b:List UInt8):(fourL b).length = 4:=rfl
def aggL (l:List UInt8):Value:=.agg (cs l).toArray
set_option maxHeartbeats 1600000 in
set_option maxRecDepth 100000 in
theorem four1 (x:UInt8) (w:World) :
  Calls Tryz.prog 193 #[.string ⟨#[x]⟩] w fun e w'=>e = .returned (aggL (fourL [x]))∧Below w.heap.size w w':=by
 have hx:(x.toNat:Int) < 256:=by have:=x.toNat_lt; omega
 have p0:∀ h,(ByteArray.mk #[x])[0]'h = x:=fun _=>rfl
 have o1:bits .or .i64 0 (x.toNat:Int) = (x.toNat:Int):=by simpa using or_i64 8 0 (x.toNat:Int) (by omega) (by omega) (by omega) (by simpa using hx) (by omega)
 go_enter Tryz.func193,Tryz.ntmps193
 go_wp2
 refine wp_loop_rounds 4 ?_
 rw [rounds_succ]
 go_wp2
 rw [rounds_succ]
 go_wp2
 rw [rounds_succ]
 go_wp2
 rw [rounds_succ]
 go_wp2
 clear o1 p0
 have hN1:0 ≤ (x.toNat:Int) * 256 * 256:=by omega
 have hN2:(x.toNat:Int) * 256 * 256 < 16777216:=by omega
 have hN3:(x.toNat:Int) * 256 * 256 = (bitsOf [x]:Nat):=by simp [bitsOf]
 have HN:Hid ((x.toNat:Int) * 256 * 256 = (bitsOf [x]:Nat)):=hN3
 clear hN3
 generalize (x.toNat:Int) * 256 * 256 = N at hN1 hN2 HN ⊢
 clear hx
 have a0:=and63 (N / 262144) (by omega) (by omega)
 have a1:=and63 (N / 4096) (by omega) (by omega)
 have a2:=and63 (N / 64) (by omega) (by omega)
 have a3:=and63 N (by omega) (by omega)
 have b0:N / 262144 % 64 < 64:=by omega
 have b1:N / 4096 % 64 < 64:=by omega
 have b2:N / 64 % 64 < 64:=by omega
 have b3:N % 64 < 64:=by omega
 have c0:0 ≤ N / 262144 % 64:=by omega
 have c1:0 ≤ N / 4096 % 64:=by omega
 have c2:0 ≤ N / 64 % 64:=by omega
 have c3:0 ≤ N % 64:=by omega
 refine wp_loop_rounds 5 ?_
 rw [rounds_succ]
 go_wp2
 simp only [lett_at]
 rw [rounds_succ]
 go_wp2
 simp only [lett_at]
 rw [rounds_succ]
 go_wp2
 rw [rounds_succ]
 go_wp2
 rw [rounds_succ]
 go_wp2
 have hN:=HN.out
 subst hN
 have e0:(((bitsOf [x]:Nat):Int) / 262144 % 64).toNat = bitsOf [x] / 262144 % 64:=by omega
 have e1:(((bitsOf [x]:Nat):Int) / 4096 % 64).toNat = bitsOf [x] / 4096 % 64:=by omega
 simp only [e0,e1]
 exact bodyPost_ret (v:=aggL (fourL [x])) (by simp [results,Tryz.results193,go_sem,aggL,fourL,fourN,cs]) rfl ⟨rfl,((Below.refl _ _).alloc (Nat.le_refl _) _).alloc (by simp) _⟩
set_option maxHeartbeats 1600000 in
set_option maxRecDepth 100000 in
theorem four2 (x y:UInt8) (w:World) :
  Calls Tryz.prog 193 #[.string ⟨#[x,y]⟩] w fun e w'=>e = .returned (aggL (fourL [x,y]))∧Below w.heap.size w w':=by
 have hx:(x.toNat:Int) < 256:=by have:=x.toNat_lt; omega
 have hy:(y.toNat:Int) < 256:=by have:=y.toNat_lt; omega
 have p0:∀ h,(ByteArray.mk #[x,y])[0]'h = x:=fun _=>rfl
 have p1:∀ h,(ByteArray.mk #[x,y])[1]'h = y:=fun _=>rfl
 have o1:bits .or .i64 0 (x.toNat:Int) = (x.toNat:Int):=by simpa using or_i64 8 0 (x.toNat:Int) (by omega) (by omega) (by omega) (by simpa using hx) (by omega)
 have o2:bits .or .i64 ((x.toNat:Int) * 256) (y.toNat:Int) = (x.toNat:Int) * 256+(y.toNat:Int):=or_i64 8 _ _ (by omega) (by omega) (by omega) (by simpa using hy) (by omega)
 go_enter Tryz.func193,Tryz.ntmps193
 go_wp2
 refine wp_loop_rounds 4 ?_
 rw [rounds_succ]
 go_wp2
 rw [rounds_succ]
 go_wp2
 rw [rounds_succ]
 go_wp2
 rw [rounds_succ]
 go_wp2
 clear o1 o2 p0 p1
 have hN1:0 ≤ ((x.toNat:Int) * 256+(y.toNat:Int)) * 256:=by omega
 have hN2:((x.toNat:Int) * 256+(y.toNat:Int)) * 256 < 16777216:=by omega
 have hN3:((x.toNat:Int) * 256+(y.toNat:Int)) * 256 = (bitsOf [x,y]:Nat):=by simp [bitsOf]
 have HN:Hid (((x.toNat:Int) * 256+(y.toNat:Int)) * 256 = (bitsOf [x,y]:Nat)):=hN3
 clear hN3
 generalize ((x.toNat:Int) * 256+(y.toNat:Int)) * 256 = N at hN1 hN2 HN ⊢
 clear hx hy
 have a0:=and63 (N / 262144) (by omega) (by omega)
 have a1:=and63 (N / 4096) (by omega) (by omega)
 have a2:=and63 (N / 64) (by omega) (by omega)
 have a3:=and63 N (by omega) (by omega)
 have b0:N / 262144 % 64 < 64:=by omega
 have b1:N / 4096 % 64 < 64:=by omega
 have b2:N / 64 % 64 < 64:=by omega
 have b3:N % 64 < 64:=by omega
 have c0:0 ≤ N / 262144 % 64:=by omega
 have c1:0 ≤ N / 4096 % 64:=by omega
 have c2:0 ≤ N / 64 % 64:=by omega
 have c3:0 ≤ N % 64:=by omega
 refine wp_loop_rounds 5 ?_
 rw [rounds_succ]
 go_wp2
 simp only [lett_at]
 rw [rounds_succ]
 go_wp2
 simp only [lett_at]
 rw [rounds_succ]
 go_wp2
 simp only [lett_at]
 rw [rounds_succ]
 go_wp2
 rw [rounds_succ]
 go_wp2
 have hN:=HN.out
 subst hN
 have e0:(((bitsOf [x,y]:Nat):Int) / 262144 % 64).toNat = bitsOf [x,y] / 262144 % 64:=by omega
 have e1:(((bitsOf [x,y]:Nat):Int) / 4096 % 64).toNat = bitsOf [x,y] / 4096 % 64:=by omega
 have e2:(((bitsOf [x,y]:Nat):Int) / 64 % 64).toNat = bitsOf [x,y] / 64 % 64:=by omega
 simp only [e0,e1,e2]
 exact bodyPost_ret (v:=aggL (fourL [x,y])) (by simp [results,Tryz.results193,go_sem,aggL,fourL,fourN,cs]) rfl ⟨rfl,((Below.refl _ _).alloc (Nat.le_refl _) _).alloc (by simp) _⟩
set_option maxHeartbeats 1600000 in
set_option maxRecDepth 100000 in
theorem four3 (x y z:UInt8) (w:World) :
  Calls Tryz.prog 193 #[.string ⟨#[x,y,z]⟩] w fun e w'=>e = .returned (aggL (fourL [x,y,z]))∧Below w.heap.size w w':=by
 have hx:(x.toNat:Int) < 256:=by have:=x.toNat_lt; omega
 have hy:(y.toNat:Int) < 256:=by have:=y.toNat_lt; omega
 have hz:(z.toNat:Int) < 256:=by have:=z.toNat_lt; omega
 have p0:∀ h,(ByteArray.mk #[x,y,z])[0]'h = x:=fun _=>rfl
 have p1:∀ h,(ByteArray.mk #[x,y,z])[1]'h = y:=fun _=>rfl
 have p2:∀ h,(ByteArray.mk #[x,y,z])[2]'h = z:=fun _=>rfl
 have o1:bits .or .i64 0 (x.toNat:Int) = (x.toNat:Int):=by simpa using or_i64 8 0 (x.toNat:Int) (by omega) (by omega) (by omega) (by simpa using hx) (by omega)
 have o2:bits .or .i64 ((x.toNat:Int) * 256) (y.toNat:Int) = (x.toNat:Int) * 256+(y.toNat:Int):=or_i64 8 _ _ (by omega) (by omega) (by omega) (by simpa using hy) (by omega)
 have o3:bits .or .i64 (((x.toNat:Int) * 256+(y.toNat:Int)) * 256) (z.toNat:Int) = ((x.toNat:Int) * 256+(y.toNat:Int)) * 256+(z.toNat:Int):=or_i64 8 _ _ (by omega) (by omega) (by omega) (by simpa using hz) (by omega)
 go_enter Tryz.func193,Tryz.ntmps193
 go_wp2
 refine wp_loop_rounds 4 ?_
 rw [rounds_succ]
 go_wp2
 rw [rounds_succ]
 go_wp2
 rw [rounds_succ]
 go_wp2
 rw [rounds_succ]
 go_wp2
 clear o1 o2 o3 p0 p1 p2
 have hN1:0 ≤ ((x.toNat:Int) * 256+(y.toNat:Int)) * 256+(z.toNat:Int):=by omega
 have hN2:((x.toNat:Int) * 256+(y.toNat:Int)) * 256+(z.toNat:Int) < 16777216:=by omega
 have hN3:((x.toNat:Int) * 256+(y.toNat:Int)) * 256+(z.toNat:Int) = (bitsOf [x,y,z]:Nat):=by simp [bitsOf]
 have HN:Hid (((x.toNat:Int) * 256+(y.toNat:Int)) * 256+(z.toNat:Int) = (bitsOf [x,y,z]:Nat)):=hN3
 clear hN3
 generalize ((x.toNat:Int) * 256+(y.toNat:Int)) * 256+(z.toNat:Int) = N at hN1 hN2 HN ⊢
 clear hx hy hz
 have a0:=and63 (N / 262144) (by omega) (by omega)
 have a1:=and63 (N / 4096) (by omega) (by omega)
 have a2:=and63 (N / 64) (by omega) (by omega)
 have a3:=and63 N (by omega) (by omega)
 have b0:N / 262144 % 64 < 64:=by omega
 have b1:N / 4096 % 64 < 64:=by omega
 have b2:N / 64 % 64 < 64:=by omega
 have b3:N % 64 < 64:=by omega
 have c0:0 ≤ N / 262144 % 64:=by omega
 have c1:0 ≤ N / 4096 % 64:=by omega
 have c2:0 ≤ N / 64 % 64:=by omega
 have c3:0 ≤ N % 64:=by omega
 refine wp_loop_rounds 5 ?_
 rw [rounds_succ]
 go_wp2
 simp only [lett_at]
 rw [rounds_succ]
 go_wp2
 simp only [lett_at]
 rw [rounds_succ]
 go_wp2
 simp only [lett_at]
 rw [rounds_succ]
 go_wp2
 simp only [lett_at]
 rw [rounds_succ]
 go_wp2
 have hN:=HN.out
 subst hN
 have e0:(((bitsOf [x,y,z]:Nat):Int) / 262144 % 64).toNat = bitsOf [x,y,z] / 262144 % 64:=by omega
 have e1:(((bitsOf [x,y,z]:Nat):Int) / 4096 % 64).toNat = bitsOf [x,y,z] / 4096 % 64:=by omega
 have e2:(((bitsOf [x,y,z]:Nat):Int) / 64 % 64).toNat = bitsOf [x,y,z] / 64 % 64:=by omega
 have e3:(((bitsOf [x,y,z]:Nat):Int) % 64).toNat = bitsOf [x,y,z] % 64:=by omega
 simp only [e0,e1,e2,e3]
 exact bodyPost_ret (v:=aggL (fourL [x,y,z])) (by simp [results,Tryz.results193,go_sem,aggL,fourL,fourN,cs]) rfl ⟨rfl,((Below.refl _ _).alloc (Nat.le_refl _) _).alloc (by simp) _⟩
theorem four_any (b:ByteArray) (w:World) (h0:0 < b.size) (h3:b.size ≤ 3) :
  Calls Tryz.prog 193 #[.string b] w fun e w'=>e = .returned (aggL (fourL b.data.toList))∧Below w.heap.size w w':=by
 obtain ⟨⟨l⟩⟩:=b
 match l,h0,h3 with
 | [],h0,_=>exact absurd h0 (by decide)
 | [x],_,_=>exact four1 x w
 | [x,y],_,_=>exact four2 x y w
 | [x,y,z],_,_=>exact four3 x y z w
 | x :: y :: z :: t :: r,_,h3=>exact absurd h3 (by simp [ByteArray.size])
end Go.Proofs.YtknhacbfddggpaaGreatDoor.Tx
namespace Go.Proofs.YtknhacbfddggpaaGreatDoor.Tx
open Go.RowKit
def packTo (b:List UInt8):Nat → List UInt8
 | 0=>[]
 | k+1=>packTo b k++fourL ((b.drop (3 * k)).take 3)
theorem packTo_length (b:List UInt8) (k:Nat):(packTo b k).length = 4 * k:=by
 induction k with
 | zero=>rfl
 | succ k ih=>simp [packTo,ih,fourL_length]; omega
def packS (b:List UInt8):List UInt8:=let l:=packTo b ((b.length+2) / 3); inLinesTo l l.length
theorem Hid.mk {p:Prop} (h:p):Hid p:=h
theorem four_parts (b:ByteArray) (w:World) (h0:0 < b.size) (h3:b.size ≤ 3) :
  Calls Tryz.prog 193 #[.string b] w fun e w'=>∃ c0 c1 c2 c3:UInt8,e = .returned (.agg #[.int .u8 (c0.toNat:Int),.int .u8 (c1.toNat:Int),.int .u8 (c2.toNat:Int),.int .u8 (c3.toNat:Int)])∧fourL b.data.toList = [c0,c1,c2,c3]∧Below w.heap.size w w':=
 (four_any b w h0 h3).mono fun _ _ ⟨h,hb⟩=>⟨_,_,_,_,h,rfl,hb⟩
theorem inLines_nil (w:World):Calls Tryz.prog 194 #[.slice none 0 0] w fun e w'=>e = .returned (.string ⟨#[]⟩)∧Below w.heap.size w w':=by
 go_enter Tryz.func194,Tryz.ntmps194
 go_wp2
 refine wp_loop_rounds 1 ?_
 rw [rounds_succ]
 have hcv:=(Own.nil w 0).string
 go_wp2
 go_ret
 exact ⟨rfl,Below.refl _ _⟩
theorem inLines_any (l:List UInt8) (v:Value) (B:Nat) (w:World) (hl:l.length ≤ 10000000) (hown:Own w B v l) :
  Calls Tryz.prog 194 #[v] w fun e w'=>e = .returned (.string ⟨(inLinesTo l l.length).toArray⟩)∧Below w.heap.size w w':=by
 rcases hown.shape with ⟨rfl,rfl⟩ | ⟨g,cap,rfl,_,hg,_,_,hc⟩
 ·exact inLines_nil w
 ·exact inLines_some l g cap w hl hg hc
theorem extract_list (b:ByteArray) (i j:Nat):(b.extract i j).data.toList = (b.data.toList.drop i).take (j - i):=by
 rw [ByteArray.data_extract,Array.toList_extract,List.extract_eq_take_drop]
theorem cells4 (w1:World) (c0 c1 c2 c3:UInt8) (t:TypeId):∀ j (hj:j < [c0,c1,c2,c3].length),
  (w1.alloc (.cells #[.int .u8 (c0.toNat:Int),.int .u8 (c1.toNat:Int),.int .u8 (c2.toNat:Int),.int .u8 (c3.toNat:Int)] t)).cell? (Addr.add ⟨w1.heap.size,0,none⟩ j) = some (.int .u8 ([c0,c1,c2,c3][j].toNat:Int)):=by
 intro j hj
 match j,hj with
 | 0,_=>simp [Addr.add_lit]
 | 1,_=>simp [Addr.add_lit]
 | 2,_=>simp [Addr.add_lit]
 | 3,_=>simp [Addr.add_lit]
set_option maxHeartbeats 400000 in
theorem pack_any (b:ByteArray) (w:World) (hl:b.size ≤ 100000) :
  Calls Tryz.prog 150 #[.string b] w fun e w'=>e = .returned (.string ⟨(packS b.data.toList).toArray⟩)∧Below w.heap.size w w':=by
 have hbl:b.data.toList.length = b.size:=by rw [Array.length_toList]; rfl
 have HL:Hid (b.data.toList.length = b.size):=hbl
 clear hbl
 go_enter Tryz.func150,Tryz.ntmps150
 go_wp2
 go_loopw [3,10] (fun v i wr=>∃ k:Nat,3 * k ≤ b.size+2∧i = .int .i64 k∧Own wr w.heap.size v (packTo b.data.toList k)∧Below w.heap.size w wr) (fun _ i _=>b.size - (intOf i).toNat)
 case atStart=>exact ⟨0,by omega,rfl,Own.nil _ _,Below.refl _ _⟩
 case round =>
  obtain ⟨k,hk,rfl,hown,hb⟩:=hrel
  by_cases hlt:3 * k < b.size
  ·have hsz:=hb.size
   have hT:(k:Int) < ((b.size:Int)+2) / 3:=by omega
   have hplen:=packTo_length b.data.toList k
   have HP:Hid ((packTo b.data.toList k).length = 4 * k):=hplen
   clear hplen
   have hp4:(packTo b.data.toList k).length+4 ≤ 1000000000:=by rw [HP.out]; omega
   by_cases hc:3 * k+3 ≤ b.size
   ·have hc1:(3 * k:Int)+3 ≤ (b.size:Int):=by omega
    have HX:Hid (packTo b.data.toList (k+1) = packTo b.data.toList k++fourL (b.extract (3 * k) (3 * k+3)).data.toList):=by
     show _ = _
     rw [extract_list,show 3 * k+3 - 3 * k = 3 from by omega]; rfl
    go_wp2_with (first | (go_at_call 193; refine (four_parts _ _ (by simp; omega) (by simp; omega)).mono ?_; rintro e w1 ⟨c0,c1,c2,c3,rfl,hq,hb1⟩; have HQ:=Hid.mk hq; clear hq) | (at_builtin; refine wp_app _ w rfl (.tmp 24) (.tmp 25) rfl w.heap.size _ (packTo b.data.toList k) rfl ((hown.below hb1 (Nat.le_refl _)).alloc _) ⟨w1.heap.size,0,none⟩ 4 4 [c0,c1,c2,c3] rfl rfl (cells4 _ _ _ _ _ _) hp4 (by have:=hb1.size; simp; omega) ((hb.trans (hb1.mono hsz)).alloc (by have:=hb1.size; omega) _) ?_; intro v2 w2 hown2 hb2 hg2))
    go_roundw
    case rel=>exact ⟨k+1,by omega,by go_num,by rw [HX.out,HQ.out]; exact hown2,hb2⟩
    case measure=>simp [intOf]; omega
   ·have hc1:(b.size:Int) < (3 * k:Int)+3:=by omega
    have HX:Hid (packTo b.data.toList (k+1) = packTo b.data.toList k++fourL (b.extract (3 * k) b.size).data.toList):=by
     show _ = _
     rw [extract_list,List.take_of_length_le (i:=b.size - 3 * k) (by rw [List.length_drop,HL.out]; omega)]
     rw [packTo,List.take_of_length_le (i:=3) (by rw [List.length_drop,HL.out]; omega)]
    go_wp2_with (first | (go_at_call 193; refine (four_parts _ _ (by simp; omega) (by simp; omega)).mono ?_; rintro e w1 ⟨c0,c1,c2,c3,rfl,hq,hb1⟩; have HQ:=Hid.mk hq; clear hq) | (at_builtin; refine wp_app _ w rfl (.tmp 24) (.tmp 25) rfl w.heap.size _ (packTo b.data.toList k) rfl ((hown.below hb1 (Nat.le_refl _)).alloc _) ⟨w1.heap.size,0,none⟩ 4 4 [c0,c1,c2,c3] rfl rfl (cells4 _ _ _ _ _ _) hp4 (by have:=hb1.size; simp; omega) ((hb.trans (hb1.mono hsz)).alloc (by have:=hb1.size; omega) _) ?_; intro v2 w2 hown2 hb2 hg2))
    go_roundw
    case rel=>exact ⟨k+1,by omega,by go_num,by rw [HX.out,HQ.out]; exact hown2,hb2⟩
    case measure=>simp [intOf]; omega
  ·have hT:¬ (k:Int) < ((b.size:Int)+2) / 3:=by omega
   have hplen:=packTo_length b.data.toList k
   have HP:Hid ((packTo b.data.toList k).length = 4 * k):=hplen
   clear hplen
   have hp4:(packTo b.data.toList k).length ≤ 10000000:=by rw [HP.out]; omega
   go_wp2_with (go_at_call 194; refine (inLines_any (packTo b.data.toList k) _ _ _ hp4 hown).mono ?_; rintro e w1 ⟨rfl,hb1⟩)
   go_ret
   refine ⟨ret_str ?_,hb.trans (hb1.mono hb.size)⟩
   unfold packS
   rw [HL.out,show (b.size+2) / 3 = k from by omega]
end Go.Proofs.YtknhacbfddggpaaGreatDoor.Tx
