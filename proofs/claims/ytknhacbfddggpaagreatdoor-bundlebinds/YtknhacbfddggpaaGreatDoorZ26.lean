import Derived.Test.YtknhacbfddggpaaGreatDoorZ24
import Derived.Test.YtknhacbfddggpaaGreatDoorZ25
import Derived.Laws.CopyRow
namespace Go.Proofs.YtknhacbfddggpaaGreatDoor
open Go.RowKit
theorem wp_appFs {ops:Array Oper} {rest:List Oper} {o:Oper} {a:Act} {Q:Exit → Act → World → Prop} (W:World) (hgd:o.guard = none) (s x:Operand) (ho:o.op = .call { callee:=.builtin .append,args:=#[s,x],argTypes:=#[42,42] })
  (B:Nat) (v:Value) (L:List Fl) (hs:a.eval s = v) (hown:OwnF W B v L) (b off c:Nat) (M:List Fl) (hx:a.eval x = .slice (some ⟨b,off,none⟩) M.length c) (h0:∀ k (hk:k < M.length),W.cell? ⟨b,off+k * 2,none⟩ = some (.string M[k].1)∧W.cell? ⟨b,off+k * 2+1,none⟩ = some (.string M[k].2)) (hl:L.length+M.length ≤ 1000000) (hB:B ≤ W.heap.size)
  (h:∀ v' w',OwnF w' B v' (L++M) → W.grownBy w' v.ownBlock → wpList Tryz.prog ops Q rest (a.put o.dst v') w'):wpList Tryz.prog ops Q (o :: rest) a W:=by
 refine wpList_plain hgd fun _ hK=>?_
 obtain ⟨i0,hi,hz0,hz1,hz2⟩:=info_parts Tryz.infoFld
 refine wp_append_own W s x 42 ho B 75 i0 (.agg #[.string ⟨#[]⟩,.string ⟨#[]⟩]) 2 32 Tryz.underlying42 hi hz0 hz1 hz2 rfl (by decide) v L.length (fcells L) hs hown ⟨b,off,none⟩ M.length c (fcells M) hx (by rw [fcells_length]) ?_ ?_ (by unfold maxLen; omega) (by omega) hB ?_
 ·intro j u hj
  have hjl:j < M.length * 2:=by
   have:=(List.getElem?_eq_some_iff.1 hj).1
   rw [fcells_length] at this
   exact this
  rw [Addr.add_lit]
  have hk:j / 2 < M.length:=by omega
  have hg:=fcells_get M (j / 2) hk
  have hc:=h0 (j / 2) hk
  rcases Nat.mod_two_eq_zero_or_one j with h2 | h2
  ·have e:j = j / 2 * 2:=by omega
   rw [e] at hj ⊢
   rw [hg.1] at hj
   rw [hc.1]; exact hj
  ·have e:j = j / 2 * 2+1:=by omega
   rw [e] at hj ⊢
   rw [hg.2] at hj
   rw [← Nat.add_assoc,hc.2]; exact hj
 ·intro u hu
  obtain ⟨f,hf,hu⟩:=List.mem_flatMap.1 hu
  have:u = .string f.1 ∨ u = .string f.2:=by simpa using hu
  rcases this with rfl | rfl <;> rfl
 ·intro v' w' h2 h3 _
  refine hK _ _ (h v' w' ?_ h3)
  unfold OwnF
  rw [List.length_append,fcells_append]
  exact h2
theorem sliceNe (a:Addr) (n c:Nat) (w:World):Sem.run Tryz.prog (binOp BinOp.eql 42 (.slice (some a) n c) (.slice none 0 0)) w = Result.ok (.bool false) w:=by kernel_rfl
set_option maxHeartbeats 1000000 in
set_option maxRecDepth 100000 in
theorem clone_any (v:Value) (L:List Fl) (w:World) (hT:Tiny L) (hF:FL w v L) :
  Calls Tryz.prog 28 #[v] w fun e w'=>∃ v',e = .returned v'∧OwnF w' w.heap.size v' L∧Below w.heap.size w w':=by
 obtain ⟨A,cap,rfl,hcap,hcells⟩:=hF
 have hlen:=hT.1
 have HC:=Box.mk hcells
 clear hcells hT
 cases A with
 | none =>
  have hL:L = []:=by
   cases L with
   | nil=>rfl
   | cons f L =>
    obtain ⟨b,off,e,_⟩:=HC.out 0 (by simp)
    cases e
  subst hL
  have hq:∀ w,Sem.run Tryz.prog (binOp BinOp.eql 42 (.slice none 0 cap) (.slice none 0 0)) w = Result.ok (.bool true) w:=fun w=>by kernel_rfl
  go_enter Tryz.func28,Tryz.ntmps28
  go_wp2
  go_ret
  exact ⟨_,rfl,OwnF.nil _ _,Below.refl _ _⟩
 | some a =>
  have hown0:OwnF (w.alloc (.cells #[] 75)) w.heap.size (.slice (some ⟨w.heap.size,0,none⟩) 0 0) []:=⟨rfl,.inr ⟨w.heap.size,0,#[],rfl,Nat.le_refl _,heap_oneP w _,Nat.le_refl _,by decide,rfl,rfl⟩⟩
  have hb0:=below_oneP w (.cells #[] 75)
  by_cases hL:L = []
  ·subst hL
   have hq:=fun w=>sliceNe a 0 cap w
   go_enter Tryz.func28,Tryz.ntmps28
   go_wp2
   go_ret
   exact ⟨_,rfl,hown0,hb0⟩
  ·have hq:=fun w=>sliceNe a L.length cap w
   have hpos:0 < L.length:=List.length_pos_iff.2 hL
   obtain ⟨b,off,he,_⟩:=HC.out 0 hpos
   obtain rfl:=Option.some.inj he
   have HCW:Box (∀ k (hk:k < L.length),(w.alloc (.cells #[] 75)).cell? ⟨b,off+k * 2,none⟩ = some (.string L[k].1)∧(w.alloc (.cells #[] 75)).cell? ⟨b,off+k * 2+1,none⟩ = some (.string L[k].2)):=⟨fun k hk=>by
    obtain ⟨b',off',he',c1,c2⟩:=HC.out k hk
    simp only [Option.some.injEq,Addr.mk.injEq,and_true] at he'
    obtain ⟨rfl,rfl⟩:=he'
    exact ⟨(hb0.cell (p:=⟨b,off+k * 2,none⟩) (World.block_lt_of_cell? w _ c1)).trans c1,(hb0.cell (p:=⟨b,off+k * 2+1,none⟩) (World.block_lt_of_cell? w _ c2)).trans c2⟩⟩
   have HO:=Box.mk hown0
   clear HC hown0 hL he
   go_enter Tryz.func28,Tryz.ntmps28
   go_wp2_with (at_builtin; refine wp_appFs _ rfl (.tmp 5) (.tmp 6) rfl w.heap.size _ [] rfl HO.out _ _ _ L rfl HCW.out (by simp; omega) (by simp) ?_; intro v3 w3 hown3 hg3)
   go_ret
   exact ⟨_,rfl,hown3,hb0.trans (Below.grown (Below.refl _ _) hg3 (by simp) (fun k e=>Nat.le_of_eq (Option.some.inj (show some w.heap.size = some k from e))))⟩
end Go.Proofs.YtknhacbfddggpaaGreatDoor
namespace Go.Proofs.YtknhacbfddggpaaGreatDoor
open Go.RowKit
theorem fcells_set0 (L:List Fl) (k:Nat) (hk:k < L.length) (x:ByteArray):(fcells L).set (k * 2) (.string x) = fcells (L.set k (x,L[k].2)):=by
 induction L generalizing k with
 | nil=>exact absurd hk (by simp)
 | cons f L ih =>
  have e:∀ (f:Fl) (L:List Fl),fcells (f :: L) = .string f.1 :: .string f.2 :: fcells L:=fun _ _=>rfl
  cases k with
  | zero=>rw [e]; rfl
  | succ k =>
   rw [e,show (k+1) * 2 = k * 2+1+1 by omega,List.set_cons_succ,List.set_cons_succ,ih k (by simpa using hk),List.set_cons_succ,e]
   rfl
theorem fcells_take (L:List Fl) (i:Nat):fcells (L.take i) = (fcells L).take (i * 2):=by
 induction L generalizing i with
 | nil=>simp [fcells]
 | cons f L ih =>
  have e:∀ (f:Fl) (L:List Fl),fcells (f :: L) = .string f.1 :: .string f.2 :: fcells L:=fun _ _=>rfl
  cases i with
  | zero=>simp [fcells]
  | succ i=>rw [List.take_succ_cons,e,e,ih,show (i+1) * 2 = i * 2+1+1 by omega,List.take_succ_cons,List.take_succ_cons]
theorem OwnF.set2 {w:World} {B g cap:Nat} {L:List Fl} (h:OwnF w B (.slice (some ⟨g,0,none⟩) L.length cap) L) (k:Nat) (hk:k < L.length) (x y:ByteArray):OwnF ((w.setCell ⟨g,k * 2,none⟩ (.string x)).setCell ⟨g,k * 2+1,none⟩ (.string y)) B (.slice (some ⟨g,0,none⟩) L.length cap) (L.set k (x,y)):=by
 have h':w.ownsRow B 75 2 (.slice (some ⟨g,0,none⟩) L.length cap) L.length (fcells L):=h
 have h1:=(World.ownsRow.stored h' (k * 2) (.string x)).1
 rw [fcells_set0 L k hk x] at h1
 have h2:=(World.ownsRow.stored h1 (k * 2+1) (.string y)).1
 rw [fcells_set (L.set k (x,L[k].2)) k (by simpa using hk) y] at h2
 unfold OwnF
 rw [List.length_set]
 simpa using h2
theorem clear_own (w:World) (B g n cap i:Nat) (ty:TypeId) (M:List Fl) (h:OwnF w B (.slice (some ⟨g,0,none⟩) n cap) M) (hi:i < n) (hn:M.length = n) :
  ∃ w',(Builtin.clear_ #[42] ty #[.slice (some ⟨g,i * 2,none⟩) (n - i) (cap - i)]).run Tryz.prog w = .ok (.tuple #[]) w'∧OwnF w' B (.slice (some ⟨g,0,none⟩) i cap) (M.take i)∧w.grownBy w' (some g):=by
 rcases h.2 with ⟨h',_⟩ | ⟨g',cap',cur,h',hb,hg,hc1,hc2,hc3,hc4⟩
 ·cases h'
 ·simp only [Value.slice.injEq,Option.some.injEq,Addr.mk.injEq,and_true] at h'
  obtain ⟨rfl,_,rfl⟩:=h'
  obtain ⟨m,hm⟩:∃ m,n - i = m+1:=⟨n - i - 1,by omega⟩
  have hz:(Builtin.zeroCells #[Value.string ⟨#[]⟩,Value.string ⟨#[]⟩] (n - i)).toList.length = (n - i) * 2:=by simp [Builtin.zeroCells]
  have hst:=run_storeCells_at Tryz.prog g (i * 2) 75 (Builtin.zeroCells #[Value.string ⟨#[]⟩,Value.string ⟨#[]⟩] (n - i)).toList 0 cur w hg (by rw [hz]; omega) (by
   intro v hv
   simp only [Builtin.zeroCells,Array.toList_map,List.mem_map] at hv
   obtain ⟨j,_,rfl⟩:=hv
   show (#[Value.string ⟨#[]⟩,Value.string ⟨#[]⟩][j % 2]!).oneCell' = true
   rcases Nat.mod_two_eq_zero_or_one j with h2 | h2 <;> rw [h2] <;> rfl)
  refine ⟨w.setRow g (cur.toList.take (i * 2)++(Builtin.zeroCells #[Value.string ⟨#[]⟩,Value.string ⟨#[]⟩] (n - i)).toList++cur.toList.drop (i * 2+(Builtin.zeroCells #[Value.string ⟨#[]⟩,Value.string ⟨#[]⟩] (n - i)).toList.length)).toArray,?_,?_,?_⟩
  ·rw [hm] at hst ⊢
   simp only [Nat.add_zero] at hst
   have hcell:(Value.agg #[Value.string ⟨#[]⟩,Value.string ⟨#[]⟩]).cells = #[Value.string ⟨#[]⟩,Value.string ⟨#[]⟩]:=rfl
   simp [Builtin.clear_,run_underlying Tryz.underlying42,Tryz.zeroValue75,hcell,hst]
  ·have hml:(M.take i).length = i:=by rw [List.length_take]; omega
   have ht:(cur.toList.take (i * 2)) = fcells (M.take i):=by
    rw [fcells_take,← hc4,List.take_take]
    congr 1
    omega
   refine ⟨by rw [fcells_length],.inr ⟨g,cap,_,by rw [hml],hb,setRow_heap w g cur _ _ _ hg,by omega,hc2,?_,?_⟩⟩
   ·simp only [List.size_toArray,List.length_append,List.length_take,List.length_drop,Array.length_toList,hz]
    omega
   ·rw [hml,← ht]
    simp only [List.append_assoc]
    rw [List.take_append_of_le_length (by rw [List.length_take,Array.length_toList]; omega),List.take_of_length_le (by rw [List.length_take]; omega)]
  ·exact ⟨rfl,rfl,rfl,by simp,fun k _ hk=>setRow_other w g k _ (fun e=>hk (by rw [e]))⟩
theorem firstP_at (p:Fl → Bool) (L:List Fl) (h:firstP p L < L.length):∃ f,L[firstP p L]? = some f∧p f = false∧(L.take (firstP p L)).filter p = L.take (firstP p L):=by
 unfold firstP at h ⊢
 induction L with
 | nil=>exact absurd h (by simp)
 | cons a L ih =>
  rw [List.takeWhile_cons] at h ⊢
  cases hp:p a with
  | false=>exact ⟨a,by simp,hp,by simp⟩
  | true =>
   rw [hp] at h
   simp only [if_true,List.length_cons] at h ⊢
   obtain ⟨f,h1,h2,h3⟩:=ih (by simpa using h)
   exact ⟨f,by simpa using h1,h2,by rw [List.take_succ_cons,List.filter_cons,if_pos hp,h3]⟩
theorem filter_first (p:Fl → Bool) (L:List Fl) (h:firstP p L = L.length):L.filter p = L:=by
 unfold firstP at h
 induction L with
 | nil=>rfl
 | cons a L ih =>
  rw [List.takeWhile_cons] at h
  cases hp:p a with
  | false=>rw [hp] at h; simp at h
  | true =>
   rw [hp] at h
   simp only [if_true,List.length_cons,Nat.add_right_cancel_iff] at h
   rw [List.filter_cons,if_pos hp,ih h]
theorem filter_take (L:List Fl) (p:Fl → Bool) (j:Nat) (f:Fl) (h:L[j]? = some f):(L.take (j+1)).filter p = (L.take j).filter p++(if p f then [f] else []):=by
 rw [take_snocF L j f h,List.filter_append]
 cases hp:p f <;> simp [hp]
theorem take_set_snoc (M:List Fl) (i:Nat) (f:Fl) (h:i < M.length):(M.set i f).take (i+1) = M.take i++[f]:=by
 rw [take_snocF (M.set i f) i f (by rw [List.getElem?_set_self h]),List.take_set_of_le (Nat.le_refl _)]
set_option maxHeartbeats 2000000 in
set_option maxRecDepth 100000 in
theorem delete_any (v:Value) (L:List Fl) (B:Nat) (w:World) (hT:Tiny L) (hO:OwnF w B v L) (hB:1 < B) (hBw:B ≤ w.heap.size) (hN:Names w) :
  Calls Tryz.prog 59 #[v,.func (.func 152) #[] #[]] w fun e w'=>∃ v',e = .returned v'∧OwnF w' B v' (L.filter fun f=>!isCte f)∧Below B w w':=by
 have HT:=Box.mk hT
 have HO:=Box.mk hO
 have HN:=Box.mk hN
 have hlen:=hT.1
 obtain ⟨v0,hv0⟩:∃ v0,v0 = v:=⟨v,rfl⟩
 rcases hO.shape with ⟨hv,hL⟩ | ⟨g,cap,hv,hBg,hgw,hcap⟩
 ·subst hv hL
  clear hT hO hN hv0
  go_enter Tryz.func59,Tryz.ntmps59
  go_wp2_with fail
  refine (idxCode_any _ [] _ HT.out (FL.nil _) HN.out).mono ?_
  rintro e w1 ⟨hI,hb1⟩
  rcases hI with ⟨hI,_⟩ | ⟨_,rfl⟩
  ·exact absurd hI (by simp)
  ·go_wp2
   go_ret
   exact ⟨_,rfl,OwnF.nil _ _,hb1.mono hBw⟩
 ·subst hv
  clear hT hO hN hv0
  go_enter Tryz.func59,Tryz.ntmps59
  go_wp2_with fail
  refine (idxCode_any _ L _ HT.out HO.out.fl HN.out).mono ?_
  rintro e w1 ⟨hI,hb1⟩
  have HO1:=Box.mk (HO.out.below hb1 (Nat.le_refl _))
  have hsz1:=hb1.size
  rcases hI with ⟨hI,rfl⟩ | ⟨hI,rfl⟩
  ·obtain ⟨r,hr⟩:∃ r,r = firstP (fun f=>!isCte f) L:=⟨_,rfl⟩
   have hst:=firstP_at (fun f=>!isCte f) L (by rw [← hr] at hI; exact hr ▸ hI)
   rw [← hr] at hst hI ⊢
   obtain ⟨f0,hf0,hp0,htk⟩:=hst
   have HI0:Box (L.take r = (L.take (r+1)).filter (fun f=>!isCte f)):=⟨by rw [filter_take L _ r f0 hf0,hp0,htk]; simp⟩
   clear hf0 hp0 htk hr
   go_wp2
   go_loopw [5,6] (fun c5 c6 wr=>∃ (i j:Nat) (M:List Fl),j ≤ L.length∧c5 = .int .i64 i∧c6 = .int .i64 j∧i < j∧M.length ≤ L.length∧L.length ≤ M.length∧Box (OwnF wr B (.slice (some ⟨g,0,none⟩) L.length cap) M)∧Box (M.take i = (L.take j).filter (fun f=>!isCte f))∧Box (M.drop j = L.drop j)∧Below B w wr) (fun _ c6 _=>L.length - (intOf c6).toNat)
   case atStart=>exact ⟨r,r+1,L,by omega,rfl,by go_num,by omega,Nat.le_refl _,Nat.le_refl _,HO1,HI0,⟨rfl⟩,hb1.mono hBw⟩
   case round =>
    obtain ⟨i,j,M,hj,rfl,rfl,hij,hM1,hM2,HOr,HTk,HDr,hb⟩:=hrel
    have hML:M.length = L.length:=Nat.le_antisymm hM1 hM2
    have HML:=Box.mk hML
    have hszr:=hb.size
    by_cases hlt:j < L.length
    ·obtain ⟨f,HF⟩:∃ f,Box (L[j]? = some f):=⟨_,⟨List.getElem?_eq_getElem hlt⟩⟩
     have hMj:M[j]? = some f:=by
      have h1:=congrArg (fun l=>l[0]?) HDr.out
      simpa [List.getElem?_drop,HF.out] using h1
     have hjM:j < M.length:=by omega
     have hiM:i < M.length:=by omega
     have hOM:OwnF wr B (.slice (some ⟨g,0,none⟩) M.length cap) M:=by rw [hML]; exact HOr.out
     have hcj:=hOM.cell j hjM
     have hMe:M[j] = f:=by rw [List.getElem?_eq_getElem hjM] at hMj; exact Option.some.inj hMj
     rw [hMe] at hcj
     obtain ⟨d0,d1,_⟩:=hcj
     have hfs:=HT.out.2 f (List.mem_of_getElem? HF.out)
     obtain ⟨fn,fv⟩:=f
     simp only at d0 d1 hfs
     have hgr:g < wr.heap.size:=World.block_lt_of_cell? wr _ d0
     have hNr:=HN.out.below hb hB
     have hba:=below_oneP wr (objF fn fv)
     have HNa:=Box.mk (hNr.below hba hNr.lt)
     have HFt:=Box.mk (filter_take L (fun f=>!isCte f) j _ HF.out)
     have HOM:=Box.mk hOM
     clear hML hMj hMe hOM hNr hb1 HOr HI0 HO1
     cases hq:isCte (fn,fv)
     ·go_wp2_with fail
      refine (clCode_any fn fv _ hfs.1 HNa.out false hq).mono ?_
      rintro e w2 ⟨rfl,hb2⟩
      obtain ⟨y0,y1,yf⟩:=b2_of ((hb2.block wr.heap.size (by simp)).trans (heap_oneP wr (objF fn fv)))
      have hO2:=(HOM.out.below hba (Nat.le_refl _)).below hb2 (Nat.le_refl _)
      obtain ⟨e0,e1,_⟩:=hO2.cell i hiM
      have hfz:∀ k,w2.frozen? ⟨g,k,none⟩ = false:=fun k=>World.ownsRow.frozenAt (show w2.ownsRow B 75 2 (.slice (some ⟨g,0,none⟩) M.length cap) M.length (fcells M) from hO2) k
      have HO3:Box (OwnF ((w2.setCell ⟨g,i * 2,none⟩ (.string fn)).setCell ⟨g,i * 2+1,none⟩ (.string fv)) B (.slice (some ⟨g,0,none⟩) L.length cap) (M.set i (fn,fv))):=⟨by have:=hO2.set2 i hiM fn fv; rw [HML.out] at this; exact this⟩
      have HT':Box ((M.set i (fn,fv)).take (i+1) = (L.take (j+1)).filter (fun f=>!isCte f)):=⟨by rw [HFt.out,hq,take_set_snoc M i _ hiM,HTk.out]; rfl⟩
      have HD':Box ((M.set i (fn,fv)).drop (j+1) = L.drop (j+1)):=⟨by
       rw [List.drop_set_of_lt (by omega),← List.drop_drop,HDr.out,List.drop_drop]⟩
      have hb2w:=(hb.trans (hba.mono (Nat.le_trans hBw hszr))).trans (hb2.mono (by simp; omega))
      clear HOM HFt HTk HDr HNa hq hb2 hO2 hba hb
      go_wp2
      go_roundw
      case rel =>
       refine ⟨_,_,_,_,_,_,_,_,_,_,_,_,_,_,_,_,_,_,_,_,_,_,_,⟨i+1,j+1,M.set i (fn,fv),by omega,by go_num,by go_num,by omega,by simp; omega,by simp; omega,HO3,HT',HD',?_⟩,rfl⟩
       exact Below.setCell (Below.setCell hb2w (by exact hBg) _) (by exact hBg) _
      case measure=>simp [intOf]; omega
     ·go_wp2_with fail
      refine (clCode_any fn fv _ hfs.1 HNa.out true hq).mono ?_
      rintro e w2 ⟨rfl,hb2⟩
      have HO3:Box (OwnF w2 B (.slice (some ⟨g,0,none⟩) L.length cap) M):=⟨by have:=(HOM.out.below hba (Nat.le_refl _)).below hb2 (Nat.le_refl _); rw [HML.out] at this; exact this⟩
      have HT':Box (M.take i = (L.take (j+1)).filter (fun f=>!isCte f)):=⟨by rw [HFt.out,hq,HTk.out]; simp⟩
      have HD':Box (M.drop (j+1) = L.drop (j+1)):=⟨by rw [← List.drop_drop,HDr.out,List.drop_drop]⟩
      have hb2w:=(hb.trans (hba.mono (Nat.le_trans hBw hszr))).trans (hb2.mono (by simp; omega))
      clear HOM HFt HTk HDr HNa hq hb2 hba hb
      go_wp2
      go_roundw
      case rel=>exact ⟨_,_,_,_,_,_,_,_,_,_,_,_,_,_,_,_,_,_,_,_,_,_,_,⟨i,j+1,M,by omega,by go_num,by go_num,by omega,by omega,by omega,HO3,HT',HD',hb2w⟩,rfl⟩
      case measure=>simp [intOf]; omega
    ·have HE:Box (M.take i = L.filter (fun f=>!isCte f)):=⟨by rw [HTk.out,List.take_of_length_le (by omega)]⟩
     clear HTk HDr HI0 HO1 hML
     obtain ⟨w3,hr3,hown3,hg3⟩:=clear_own wr B g L.length cap i 0 M HOr.out (by omega) HML.out
     go_wp2
     go_ret
     exact ⟨_,rfl,by rw [← HE.out]; exact hown3,hb.grown hg3 (Nat.le_trans hBw hszr) (fun k e=>by cases e; exact hBg)⟩
  ·have HFI:=Box.mk (filter_first (fun f=>!isCte f) L hI)
   clear hI
   go_wp2
   go_ret
   exact ⟨_,rfl,by rw [HFI.out]; exact HO1.out,hb1.mono hBw⟩
end Go.Proofs.YtknhacbfddggpaaGreatDoor
