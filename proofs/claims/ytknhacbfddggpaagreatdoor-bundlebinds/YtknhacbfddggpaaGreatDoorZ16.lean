import Derived.Test.YtknhacbfddggpaaGreatDoorZ6
import Derived.Test.YtknhacbfddggpaaGreatDoorZ5
import Derived.Test.YtknhacbfddggpaaGreatDoorZ15
import Derived.Lib.Split
namespace Go.Proofs.YtknhacbfddggpaaGreatDoor
open Go.RowKit
theorem fieldOf_some {x:List UInt8} {a b:List UInt8} (hc:Lib.cut x [58] = (a,b,true)) (hn:nameS a = true):fieldOf x = some (a,b):=by unfold fieldOf; rw [hc]; simp [hn]
theorem fieldOf_no {x:List UInt8} {a b:List UInt8} (hc:Lib.cut x [58] = (a,b,false)):fieldOf x = none:=by unfold fieldOf; rw [hc]; simp
theorem fieldOf_bad {x:List UInt8} {a b:List UInt8} {f:Bool} (hc:Lib.cut x [58] = (a,b,f)) (hn:nameS a = false):fieldOf x = none:=by unfold fieldOf; rw [hc]; simp [hn]
theorem OwnF.mono {w:World} {B B':Nat} {v:Value} {L:List Fl} (h:OwnF w B v L) (hB:B' ≤ B):OwnF w B' v L:=by
 obtain ⟨h1,h2⟩:=h
 refine ⟨h1,?_⟩
 rcases h2 with h2 | ⟨g,cap,cur,a,b,c⟩
 ·exact .inl h2
 ·exact .inr ⟨g,cap,cur,a,Nat.le_trans hB b,c⟩
def Good (s:List UInt8) (w':World) (B:Nat) (v:Value) (r:ByteArray) (L:List Fl):Prop:=refRun (hl s).1 0 [] = .ok (L.map fl2)∧OwnF w' B v L∧Tiny L∧r.data.toList = (hl s).2
theorem join_any (A:Option Addr) (g n m cap c:Nat) (ss:List ByteArray) (w:World) (hA:n+1 < m → A = some ⟨g,n+1,none⟩∧c = cap - (n+1)) (hc:∀ k (hk:k < ss.length),w.cell? ⟨g,k,none⟩ = some (.string ss[k])) (hg:g < w.heap.size) (h1:n+1 ≤ m) (h2:m ≤ ss.length) (hcap:ss.length ≤ cap) (hl:(ss.map lst).flatten.length ≤ 1000000) (hn:ss.length ≤ 1000000) :
  Calls Tryz.prog 135 #[.slice A (m - (n+1)) c,.string ⟨#[]⟩] w fun e w'=>∃ t:ByteArray,e = .returned (.string t)∧t.data.toList = (((ss.map lst).drop (n+1)).take (m - (n+1))).flatten∧Below w.heap.size w w':=by
 by_cases h0:m = n+1
 ·subst h0
  rw [Nat.sub_self]
  refine (Tryz.strings_Join_none A c ⟨#[]⟩ w).mono ?_
  rintro e w' ⟨rfl,rfl⟩
  exact ⟨_,rfl,by simp,Below.refl _ _⟩
 ·obtain ⟨rfl,rfl⟩:=hA (by omega)
  have hlen:((ss.drop (n+1)).take (m - (n+1))).length = m - (n+1):=by rw [List.length_take,List.length_drop]; omega
  have hfl:Lib.join (((ss.drop (n+1)).take (m - (n+1))).map (·.data.toList)) [] = (((ss.map lst).drop (n+1)).take (m - (n+1))).flatten:=by
   rw [join_empty,List.map_take,List.map_drop]; rfl
  have hle:(((ss.map lst).drop (n+1)).take (m - (n+1))).flatten.length ≤ (ss.map lst).flatten.length:=by
   have h1:=List.take_append_drop (n+1) (ss.map lst)
   have h2:=List.take_append_drop (m - (n+1)) ((ss.map lst).drop (n+1))
   rw [← h2] at h1
   have h3:=congrArg (fun z=>z.flatten.length) h1
   simp only [List.flatten_append,List.length_append] at h3
   omega
  have:=Tryz.strings_Join g (n+1) (cap - (n+1)) ((ss.drop (n+1)).take (m - (n+1))) ⟨#[]⟩ w (fun j x hj=>by
   have hj1:j < m - (n+1):=by
    have:=(List.getElem?_eq_some_iff.1 hj).1
    rw [hlen] at this; exact this
   rw [List.getElem?_take,if_pos hj1,List.getElem?_drop] at hj
   have hj2:n+1+j < ss.length:=by omega
   rw [List.getElem?_eq_getElem hj2] at hj
   rw [hc _ hj2,Option.some.inj hj]) hg (by omega) (by omega) (by
    show (Lib.join _ []).length ≤ _
    rw [hfl]; omega)
  rw [hlen] at this
  refine this.mono ?_
  rintro e w' ⟨rfl,hb⟩
  exact ⟨_,rfl,hfl,hb⟩
set_option maxHeartbeats 3200000 in
set_option maxRecDepth 100000 in
theorem read_any (s:ByteArray) (w:World) (hs:s.size ≤ 100000) (hm:Max w) :
  Calls Tryz.prog 114 #[.string s] w fun e w'=>((∃ (n:Nat) (E:Value),refRun (hl s.data.toList).1 0 [] = .error n∧e = .returned (.tuple #[.slice none 0 0,.string ⟨#[]⟩,E])∧ErrAt w' E 3 n) ∨
   (∃ v r L,e = .returned (.tuple #[v,.string r,.nilIface])∧Good s.data.toList w' w.heap.size v r L))∧Below w.heap.size w w':=by
 have hw0:=hm.1
 have HMx:=Box.mk hm
 have hf1:=hl_flat _ s.data.toList (Nat.le_refl _)
 have hf2:=hl_some _ s.data.toList (Nat.le_refl _)
 clear hm
 go_enter Tryz.func114,Tryz.ntmps114
 go_wp2_with fail
 refine (headLines_any s _ hs HMx.out).mono ?_
 rintro e w1 ⟨x,ss,r,rfl,hownS,hss,hr,hb1⟩
 have HSS:=Box.mk hss
 have HRr:=Box.mk hr
 rw [← hss] at hf1 hf2
 rw [size_list] at hf1
 have hcnt:=count_flat _ hf2
 rw [List.length_map] at hcnt
 have hfl:(ss.map lst).flatten.length ≤ s.size:=by omega
 have HF2:Box (∀ a ∈ ss,0 < a.size∧a.size ≤ s.size):=⟨fun a ha=>by
  have h1:lst a ∈ ss.map lst:=List.mem_map.2 ⟨a,ha,rfl⟩
  have h2:=hf2 _ h1
  have h3:∀ (ws:List (List UInt8)) (x:List UInt8),x ∈ ws → x.length ≤ ws.flatten.length:=by
   intro ws x h
   induction ws with
   | nil=>exact absurd h (by simp)
   | cons y ws ih =>
    rw [List.flatten_cons,List.length_append]
    rcases List.mem_cons.1 h with rfl | h
    ·omega
    ·have:=ih h; omega
  have h4:=h3 _ _ h1
  have h5:=List.length_pos_iff.2 h2
  rw [lst,size_list] at h4 h5
  omega⟩
 clear hss hr hf1 hf2
 obtain ⟨A,cap,hx,hcap,HCl⟩:∃ A cap,x = .slice A ss.length cap∧ss.length ≤ cap∧Box (∀ k (hk:k < ss.length),∃ g,A = some ⟨g,0,none⟩∧g < w1.heap.size∧∀ j (hj:j < ss.length),w1.cell? ⟨g,j,none⟩ = some (.string ss[j])):=by
  rcases hownS.shape with ⟨rfl,rfl⟩ | ⟨g,cap,rfl,_,hgs,hcap,_,hc⟩
  ·exact ⟨none,0,rfl,Nat.le_refl _,⟨fun k hk=>absurd hk (by simp)⟩⟩
  ·exact ⟨_,cap,rfl,hcap,⟨fun k hk=>⟨g,rfl,hgs,hc⟩⟩⟩
 subst hx
 obtain ⟨R,HR⟩:∃ R,Box (R = refRun (ss.map lst) 0 []):=⟨_,⟨rfl⟩⟩
 have HRf:Box (refRun (hl s.data.toList).1 0 [] = R):=⟨by rw [HR.out,HSS.out]⟩
 have hM1:=HMx.out.below hb1 hw0
 have HM1:=Box.mk hM1
 have hw1:=hM1.1
 clear hownS HMx hM1
 go_wp2
 go_loopw [7,8] (fun v i wr=>∃ (n:Nat) (acc:List Fl),n ≤ ss.length∧i = .int .i64 n∧OwnF wr w1.heap.size v acc∧Below w1.heap.size w1 wr∧acc.length ≤ n∧Box (∀ f ∈ acc,f.1.size ≤ 1000000∧f.2.size ≤ 1000000)∧Box (refRun ((ss.map lst).drop n) n (acc.map fl2) = R)∧Box (acc ≠ [] → ∀ x,(ss.map lst)[n]? = some x → goes x = false)) (fun _ i _=>ss.length - (intOf i).toNat)
 case atStart=>exact ⟨0,[],Nat.zero_le _,rfl,OwnF.nil _ _,Below.refl _ _,Nat.le_refl _,⟨fun f hf=>absurd hf (by simp)⟩,⟨HR.out.symm⟩,⟨fun h=>absurd rfl h⟩⟩
 case round =>
  obtain ⟨n,acc,hn,rfl,hown,hb,hacc,HT,HRun,HG⟩:=hrel
  have hsz:=hb.size
  by_cases hlt:n < ss.length
  ·obtain ⟨g,rfl,hgs,hcl⟩:=HCl.out n hlt
   have HCw:Box (∀ j (hj:j < ss.length),wr.cell? ⟨g,j,none⟩ = some (.string ss[j])):=⟨fun j hj=>(hb.cell (p:=⟨g,j,none⟩) hgs).trans (hcl j hj)⟩
   have hcx:=HCw.out n hlt
   obtain ⟨a,ha⟩:∃ a,a = ss[n]:=⟨_,rfl⟩
   rw [← ha] at hcx
   have has:=HF2.out ss[n] (List.getElem_mem hlt)
   rw [← ha] at has
   have HD:Box ((ss.map lst).drop n = a.data.toList :: (ss.map lst).drop (n+1)):=⟨by
    have hl':n < (ss.map lst).length:=by rw [List.length_map]; exact hlt
    rw [List.drop_eq_getElem_cons hl',List.getElem_map,← ha]; rfl⟩
   have HGf:Box ((goes a.data.toList && !(acc.map fl2).isEmpty) = false):=⟨by
    cases acc with
    | nil=>simp
    | cons f acc =>
     have:=HG.out (by simp) a.data.toList (by rw [List.getElem?_map,List.getElem?_eq_getElem hlt,← ha]; rfl)
     rw [this]; rfl⟩
   clear hcl ha HG HCl
   go_wp2_with fail
   refine (cut_any a ⟨#[58]⟩ _ (by omega) (HM1.out.below hb hw1)).mono ?_
   rintro e w2 ⟨nm,vl,f,rfl,hc,hnm,hvl,hb2⟩
   have HCu:Box (Lib.cut a.data.toList [58] = (nm.data.toList,vl.data.toList,f)):=⟨hc⟩
   have hb3:=hb.trans (hb2.mono hsz)
   have hown2:=hown.below hb2 (Nat.le_refl _)
   have HC2:Box (∀ j (hj:j < ss.length),w2.cell? ⟨g,j,none⟩ = some (.string ss[j])):=⟨fun j hj=>(hb2.cell (p:=⟨g,j,none⟩) (by show g < _; omega)).trans (HCw.out j hj)⟩
   have hsz3:=hb3.size
   clear hc hown HCw hcx
   cases f
   ·have HE:Box (R = .error n):=⟨by rw [← HRun.out,HD.out,refRun_none (fieldOf_no HCu.out) HGf.out]⟩
    clear HRun HD HGf HCu HC2 HF2 HT HSS HRr
    go_wp2
    exact bodyPost_ret (v:=.tuple #[.slice none 0 0,.string ⟨#[]⟩,.iface 148 (.pointer (some ⟨w2.heap.size,0,none⟩))]) (by simp [results,Tryz.results114,go_sem]) rfl ⟨.inl ⟨n,_,by rw [HRf.out,HE.out],rfl,⟨_,rfl,by simp,by simp⟩⟩,hb1.trans ((hb3.alloc hsz3 _).mono hb1.size)⟩
   ·cases hnn:nameS nm.data.toList
    ·have HE:Box (R = .error n):=⟨by rw [← HRun.out,HD.out,refRun_none (fieldOf_bad HCu.out hnn) HGf.out]⟩
     clear HRun HD HGf HCu HC2 HF2 HT HSS HRr
     go_wp2_with (go_at_call 160; refine (isName_any _ _ (by omega)).mono ?_; rintro e w2 ⟨rfl,rfl⟩)
     exact bodyPost_ret (v:=.tuple #[.slice none 0 0,.string ⟨#[]⟩,.iface 148 (.pointer (some ⟨w2.heap.size,0,none⟩))]) (by simp [results,Tryz.results114,go_sem]) rfl ⟨.inl ⟨n,_,by rw [HRf.out,HE.out],rfl,⟨_,rfl,by simp,by simp⟩⟩,hb1.trans ((hb3.alloc hsz3 _).mono hb1.size)⟩
    ·have HS1:Box (refRun ((ss.map lst).drop (n+1)) (n+1) (acc.map fl2++[(nm.data.toList,vl.data.toList)]) = R):=⟨by rw [← HRun.out,HD.out,refRun_field (fieldOf_some HCu.out hnn) HGf.out]⟩
     clear HRun HD HGf HCu
     go_wp2_with (go_at_call 160; refine (isName_any _ _ (by omega)).mono ?_; rintro e w2 ⟨rfl,rfl⟩)
     go_loop [12] (fun i=>∃ m:Nat,n+1 ≤ m∧m ≤ ss.length∧i = .int .i64 m∧Box (∀ j (hj:j < ss.length),n+1 ≤ j → j < m → goes (lst ss[j]) = true)) (fun i=>ss.length - (intOf i).toNat)
     case atStart=>exact ⟨n+1,Nat.le_refl _,by omega,by go_num,⟨fun j _ h1 h2=>absurd h1 (by omega)⟩⟩
     case round =>
      obtain ⟨m,hm1,hm2,rfl,HGo⟩:=hrel
      by_cases hgo:∃ h:m < ss.length,goes (lst ss[m]) = true
      ·obtain ⟨hml,hgm⟩:=hgo
       have hcm:=HC2.out m hml
       have hsm:=HF2.out ss[m] (List.getElem_mem hml)
       have HGo':Box (∀ j (hj:j < ss.length),n+1 ≤ j → j < m+1 → goes (lst ss[j]) = true):=⟨fun j hj h1 h2=>by
        by_cases hjm:j = m
        ·subst hjm; exact hgm
        ·exact HGo.out j hj h1 (by omega)⟩
       obtain ⟨z,hz⟩:∃ z,z = ss[m]:=⟨_,rfl⟩
       rw [← hz] at hcm hsm hgm
       have hgm':goes z.data.toList = true:=hgm
       clear hz hgm HGo
       go_wp2_with (go_at_call 161; refine (goesOn_any _ _ hsm.1).mono ?_; rintro e w2 ⟨rfl,rfl⟩)
       go_round
       case rel=>exact ⟨m+1,by omega,by omega,by go_num,HGo'⟩
       case measure=>simp [intOf]; omega
      ·have HEnd:Box (∀ x,(ss.map lst)[m]? = some x → goes x = false):=⟨fun x hx=>by
        rw [List.getElem?_map] at hx
        by_cases hml:m < ss.length
        ·rw [List.getElem?_eq_getElem hml] at hx
         have hx':lst ss[m] = x:=by simpa using hx
         rw [← hx']
         cases hq:goes (lst ss[m])
         ·rfl
         ·exact absurd ⟨hml,hq⟩ hgo
        ·rw [List.getElem?_eq_none (by omega)] at hx
         simp at hx⟩
       have hx:¬ m < ss.length ∨ ∃ h:m < ss.length,goes (lst ss[m]) = false:=by
        by_cases hml:m < ss.length
        ·right
         refine ⟨hml,?_⟩
         cases hq:goes (lst ss[m])
         ·rfl
         ·exact absurd ⟨hml,hq⟩ hgo
        ·exact .inl hml
       clear hgo
       have HS2:Box (refRun ((ss.map lst).drop m) m (acc.map fl2++[(nm.data.toList,vl.data.toList++(((ss.map lst).drop (n+1)).take (m - (n+1))).flatten)]) = R):=⟨by
        have e1:(ss.map lst).drop (n+1) = ((ss.map lst).drop (n+1)).take (m - (n+1))++(ss.map lst).drop m:=by
         have:=List.take_append_drop (m - (n+1)) ((ss.map lst).drop (n+1))
         rw [List.drop_drop] at this
         have e2:n+1+(m - (n+1)) = m:=by omega
         rw [e2] at this
         exact this.symm
        have e3:(((ss.map lst).drop (n+1)).take (m - (n+1))).length = m - (n+1):=by rw [List.length_take,List.length_drop,List.length_map]; omega
        have:=refRun_goes (((ss.map lst).drop (n+1)).take (m - (n+1))) ((ss.map lst).drop m) (n+1) (acc.map fl2) (nm.data.toList,vl.data.toList) (fun z hz=>by
         obtain ⟨j,hj⟩:=List.getElem?_of_mem hz
         have hj1:j < m - (n+1):=by
          have:=(List.getElem?_eq_some_iff.1 hj).1
          rw [e3] at this; exact this
         rw [List.getElem?_take,if_pos hj1,List.getElem?_drop,List.getElem?_map,List.getElem?_eq_getElem (by omega)] at hj
         have hj':lst (ss[n+1+j]'(by omega)) = z:=by simpa using hj
         rw [← hj']
         exact HGo.out _ (by omega) (by omega) (by omega))
        rw [← e1,e3] at this
        have e4:n+1+(m - (n+1)) = m:=by omega
        rw [e4] at this
        rw [← this,HS1.out]⟩
       clear HS1 HGo
       have hmn:n+1 ≤ m:=hm1
       have hcapm:m ≤ cap:=by omega
       have hjn:=fun A c hA=>join_any A g n m cap c ss w2 hA HC2.out (by omega) hm1 hm2 hcap (by omega) (by omega)
       have HJn:=Box.mk hjn
       have HFl:Box ((((ss.map lst).drop (n+1)).take (m - (n+1))).flatten.length ≤ s.size):=⟨by
        have h1:=List.take_append_drop (n+1) (ss.map lst)
        have h2:=List.take_append_drop (m - (n+1)) ((ss.map lst).drop (n+1))
        rw [← h2] at h1
        have h3:=congrArg (fun z=>z.flatten.length) h1
        simp only [List.flatten_append,List.length_append] at h3
        omega⟩
       clear hjn
       obtain ⟨Ad,hAd,HAd⟩:∃ Ad:Addr,(if cap = n+1 then some (⟨g,0,none⟩:Addr) else some ⟨g,n+1,none⟩) = some Ad∧Box (n+1 < m → Ad = ⟨g,n+1,none⟩):=by
        by_cases h:cap = n+1
        ·exact ⟨_,if_pos h,⟨fun h'=>by omega⟩⟩
        ·exact ⟨_,if_neg h,⟨fun _=>rfl⟩⟩
       have HX:Box (¬ m < ss.length ∨ ∃ h:m < ss.length,goes (lst ss[m]) = false):=⟨hx⟩
       have fin:Box (∀ t:ByteArray,t.data.toList = (((ss.map lst).drop (n+1)).take (m - (n+1))).flatten → t.size ≤ s.size∧(∀ f ∈ acc++[(nm,vl++t)],f.1.size ≤ 1000000∧f.2.size ≤ 1000000)∧refRun ((ss.map lst).drop m) m ((acc++[(nm,vl++t)]).map fl2) = R):=⟨fun t ht=>by
        have h1:t.size ≤ s.size:=by rw [← size_list,ht]; exact HFl.out
        refine ⟨h1,fun f hf=>?_,?_⟩
        ·rcases List.mem_append.1 hf with h | h
         ·exact HT.out f h
         ·obtain rfl:=List.mem_singleton.1 h
          refine ⟨by show nm.size ≤ _; omega,?_⟩
          show (vl++t).size ≤ _
          rw [ByteArray.size_append]; omega
        ·rw [← HS2.out,← ht]
         simp [fl2]⟩
       have hx':¬ m < ss.length ∨ ∃ z:ByteArray,m < ss.length∧0 < z.size∧goes z.data.toList = false∧w2.cell? ⟨g,m,none⟩ = some (.string z):=by
        rcases hx with h | ⟨h,h'⟩
        ·exact .inl h
        ·exact .inr ⟨ss[m],h,(HF2.out _ (List.getElem_mem h)).1,h',HC2.out m h⟩
       clear HS2 HFl HT hx HX HC2 HF2
       rcases hx' with hx1 | ⟨z,hx1,hz2,hz3,hz4⟩
       all_goals
         go_wp2_with (go_at_call 161; refine (goesOn_any _ _ hz2).mono ?_; rintro e w2 ⟨rfl,rfl⟩)
         all_goals
          refine (HJn.out _ _ (fun h=>?_)).mono ?_
          ·exact ⟨by rw [HAd.out h],rfl⟩
          rintro e w5 ⟨t,rfl,ht,hb5⟩
          obtain ⟨f1,f2,f3⟩:=fin.out t ht
          have HF2':=Box.mk f2
          have HF3':=Box.mk f3
          have hb6:=hb3.trans (hb5.mono hsz3)
          have hown5:=hown2.below hb5 (Nat.le_refl _)
          have hsz6:=hb6.size
          clear fin ht f2 f3 HJn
          go_wp2_with (at_builtin; refine wp_appF (w5.alloc (.cells #[.string nm,.string (vl++t)] 75)) w1 rfl (.tmp 65) (.tmp 69) rfl w1.heap.size u7 acc rfl (World.ownsRow.alloc hown5 _) w5.heap.size 1 (nm,vl++t) rfl (by simp) (by simp) (by omega) (by simp; omega) (hb6.alloc hsz6 _) ?_; intro v' w6 hown6 hb7)
          go_roundw
          case rel=>exact ⟨m,acc++[(nm,vl++t)],hm2,rfl,hown6,hb7,by simp; omega,HF2',HF3',⟨fun _=>HEnd.out⟩⟩
          case measure=>simp [intOf]; omega
  ·have HE:Box (R = .ok (acc.map fl2)):=⟨by rw [← HRun.out,List.drop_of_length_le (by rw [List.length_map]; omega)]; rfl⟩
   clear HRun HG HCl HF2
   go_wp2
   exact bodyPost_ret (v:=.tuple #[u7,.string r,.nilIface]) (by simp [results,Tryz.results114,go_sem]) rfl ⟨.inr ⟨_,_,acc,rfl,by rw [HRf.out,HE.out],hown.mono hb1.size,⟨by omega,HT.out⟩,HRr.out⟩,hb1.trans (hb.mono hb1.size)⟩
end Go.Proofs.YtknhacbfddggpaaGreatDoor
namespace Go.Proofs.YtknhacbfddggpaaGreatDoor
open Go.RowKit
def okC (f:Fl):Bool:=saysS (trimS f.2.data.toList)
def clF (f:Fl):FB:=(f.1.data.toList,trimS f.2.data.toList)
def firstP (p:Fl → Bool) (L:List Fl):Nat:=(L.takeWhile p).length
theorem firstP_stop (p:Fl → Bool) (L:List Fl) (k:Nat) (f:Fl) (hk:L[k]? = some f) (h:(L.take k).all p = true) (h':p f = false):firstP p L = k:=by
 induction L generalizing k with
 | nil=>exact absurd hk (by simp)
 | cons g L ih =>
  unfold firstP
  cases k with
  | zero =>
   simp at hk
   subst hk
   rw [List.takeWhile_cons,h']; rfl
  | succ k =>
   simp only [List.take_succ_cons,List.all_cons,Bool.and_eq_true] at h
   rw [List.takeWhile_cons,h.1]
   have:=ih k (by simpa using hk) h.2
   unfold firstP at this
   show (L.takeWhile p).length+1 = k+1
   rw [this]
theorem firstP_all (p:Fl → Bool) (L:List Fl) (h:L.all p = true):firstP p L = L.length:=by
 induction L with
 | nil=>rfl
 | cons g L ih =>
  simp only [List.all_cons,Bool.and_eq_true] at h
  have:=ih h.2
  unfold firstP at this ⊢
  rw [List.takeWhile_cons,h.1]
  show (L.takeWhile p).length+1 = L.length+1
  rw [this]
theorem all_onP (p:Fl → Bool) (L:List Fl) (k:Nat) (f:Fl) (hk:L[k]? = some f) (h:(L.take k).all p = true) (h':p f = true):(L.take (k+1)).all p = true:=by
 rw [take_snocF L k f hk,List.all_append,h]; simp [h']
theorem maySay_is (x:ByteArray) (w:World) (hl:x.size ≤ 1000000) (q:Bool) (hq:saysS x.data.toList = q) :
  Calls Tryz.prog 162 #[.string x] w fun e w'=>e = .returned (.bool q)∧w' = w:=by
 subst hq
 exact maySay_any x w hl
theorem new_cell (W:World) (cs:Array Value) (T:TypeId) (b k:Nat) (hb:b = W.heap.size):(W.alloc (.cells cs T)).cell? ⟨b,k,none⟩ = cs[k]?:=by
 subst hb
 simp
theorem trim_size {t v:ByteArray} (h:t.data.toList = trimS v.data.toList):t.size ≤ v.size:=by
 have:=trimS_len v.data.toList
 rw [← h,size_list,size_list] at this
 exact this
set_option maxHeartbeats 3200000 in
set_option maxRecDepth 100000 in
theorem hClean_any (v:Value) (L:List Fl) (w:World) (hT:Tiny L) (hF:FL w v L) :
  Calls Tryz.prog 115 #[v] w fun e w'=>((∃ E,firstP okC L < L.length∧e = .returned (.tuple #[.slice none 0 0,E])∧ErrAt w' E 1 (firstP okC L)) ∨
   (∃ v' M,firstP okC L = L.length∧e = .returned (.tuple #[v',.nilIface])∧OwnF w' w.heap.size v' M∧M.map fl2 = L.map clF∧Tiny M))∧Below w.heap.size w w':=by
 obtain ⟨A,cap,rfl,hcap,hcells⟩:=hF
 have HC:=Box.mk hcells
 have hlen:=hT.1
 have HT:=Box.mk hT
 clear hcells hT
 go_enter Tryz.func115,Tryz.ntmps115
 go_wp2
 go_loopw [4,9] (fun x i wr=>∃ (k:Nat) (M:List Fl),k ≤ L.length∧i = .int .i64 k∧M.length = k∧OwnF wr w.heap.size x M∧Below w.heap.size w wr∧Box ((L.take k).all okC = true)∧Box (M.map fl2 = (L.take k).map clF)∧Box (∀ f ∈ M,f.1.size ≤ 1000000∧f.2.size ≤ 1000000)) (fun _ i _=>L.length - (intOf i).toNat)
 case atStart=>exact ⟨0,[],Nat.zero_le _,rfl,rfl,OwnF.nil _ _,Below.refl _ _,⟨rfl⟩,⟨rfl⟩,⟨fun f hf=>absurd hf (by simp)⟩⟩
 case round =>
  obtain ⟨k,M,hk,rfl,hMl,hown,hb,HA,HM,HS⟩:=hrel
  have HMl:=Box.mk hMl
  clear hMl
  have hsz:=hb.size
  by_cases hlt:k < L.length
  ·obtain ⟨b,off,n,v,rfl,HN,hn,hv,hbl,d0,d1⟩:=HC.out.elem HT.out hb k hlt
   clear HC HT
   go_wp2_with fail
   refine (hTrim_any v _ hv).mono ?_
   rintro e w2 ⟨t,rfl,ht,hb2⟩
   have hts:=trim_size ht
   have HTr:=Box.mk ht
   have e0:w2.cell? ⟨wr.heap.size,0,none⟩ = some (.string n):=(hb2.cell (p:=⟨wr.heap.size,0,none⟩) (by simp)).trans (by simp)
   have e1:w2.cell? ⟨wr.heap.size,1,none⟩ = some (.string v):=(hb2.cell (p:=⟨wr.heap.size,1,none⟩) (by simp)).trans (by simp)
   have e2:w2.frozen? ⟨wr.heap.size,1,none⟩ = false:=(hb2.frozen (p:=⟨wr.heap.size,1,none⟩) (by simp)).trans (by simp)
   have hbr:Below wr.heap.size wr (w2.setCell ⟨wr.heap.size,1,none⟩ (.string t)):=(((Below.refl _ _).alloc (Nat.le_refl _) _).trans (hb2.mono (by simp))).setCell (Nat.le_refl _) _
   have hb3:=hb.trans (hbr.mono hsz)
   have hown3:=hown.below hbr (Nat.le_refl _)
   have hsz3:=hb3.size
   have hsz4:w.heap.size ≤ w2.heap.size:=by simpa using hsz3
   clear ht hown hb2 d0 d1
   cases hq:saysS t.data.toList
   ·have HE:Box (firstP okC L = k):=⟨firstP_stop okC L k _ HN.out HA.out (by unfold okC; rw [← HTr.out]; exact hq)⟩
    clear HN HA HM HS HTr
    go_wp2_with (go_at_call 162; refine (maySay_is _ _ (by omega) _ hq).mono ?_; rintro e wz ⟨rfl,rfl⟩)
    go_ret2
    exact ⟨.inl ⟨_,by rw [HE.out]; exact hlt,rfl,⟨w2.heap.size,rfl,(new_cell _ _ _ _ 0 (by simp)).trans rfl,(new_cell _ _ _ _ 1 (by simp)).trans (by rw [HE.out]; rfl)⟩⟩,hb3.alloc hsz3 _⟩
   ·have HA':Box ((L.take (k+1)).all okC = true):=⟨all_onP okC L k _ HN.out HA.out (by unfold okC; rw [← HTr.out]; exact hq)⟩
    have HM':Box ((M++[(n,t)]).map fl2 = (L.take (k+1)).map clF):=⟨by
     rw [take_snocF L k _ HN.out,List.map_append,List.map_append,HM.out]
     simp [fl2,clF,HTr.out]⟩
    have HS':Box (∀ f ∈ M++[(n,t)],f.1.size ≤ 1000000∧f.2.size ≤ 1000000):=⟨fun f hf=>by
     rcases List.mem_append.1 hf with h | h
     ·exact HS.out f h
     ·obtain rfl:=List.mem_singleton.1 h
      exact ⟨hn,by show t.size ≤ _; omega⟩⟩
    have hMk:M.length+1 ≤ 1000000:=by have:=HMl.out; omega
    clear HN HA HM HS HTr
    go_wp2_with (first | (go_at_call 162; refine (maySay_is _ _ (by omega) _ hq).mono ?_; rintro e wz ⟨rfl,rfl⟩) | (at_builtin; refine wp_appF ((w2.setCell ⟨wr.heap.size,1,none⟩ (.string t)).alloc (.cells #[.string n,.string t] 75)) w rfl (.tmp 26) (.tmp 28) rfl w.heap.size u4 M rfl (World.ownsRow.alloc hown3 _) w2.heap.size 1 (n,t) rfl ((new_cell _ _ _ _ 0 (by simp)).trans rfl) ((new_cell _ _ _ _ 1 (by simp)).trans rfl) hMk (by simp; omega) (hb3.alloc hsz3 _) ?_; intro v' w6 hown6 hb6))
    go_roundw
    case rel=>exact ⟨k+1,M++[(n,t)],by omega,by go_num,by rw [List.length_append,HMl.out]; rfl,hown6,hb6,HA',HM',HS'⟩
    case measure=>simp [intOf]; omega
  ·have HE:Box (firstP okC L = L.length):=⟨firstP_all okC L (by rw [← HA.out,List.take_of_length_le (by omega)])⟩
   have HM':Box (M.map fl2 = L.map clF):=⟨by rw [HM.out,List.take_of_length_le (by omega)]⟩
   have hMk:M.length ≤ 100000:=by have:=HMl.out; omega
   clear HA HM HC HT
   go_wp2
   go_ret2
   exact ⟨.inr ⟨_,M,HE.out,rfl,hown,HM'.out,⟨hMk,HS.out⟩⟩,hb⟩
end Go.Proofs.YtknhacbfddggpaaGreatDoor
namespace Go.Proofs.YtknhacbfddggpaaGreatDoor
open Go.RowKit
def onLines (ls:List (List UInt8)):List UInt8:=(ls.map fun x=>x++[13,10]).flatten
theorem onLines_append (a b:List (List UInt8)):onLines (a++b) = onLines a++onLines b:=by simp [onLines]
theorem onLines_one (x:List UInt8):onLines [x] = x++[13,10]:=by simp [onLines]
def stepL (q:List (List UInt8) × List UInt8 × Bool) (w:List UInt8):List (List UInt8) × List UInt8 × Bool:=
 if q.2.2 && decide (76 < q.2.1.length+w.length) then (q.1++[q.2.1],w,true) else (q.1,q.2.1++w,true)
def foldL (n:List UInt8) (ws:List (List UInt8)):List (List UInt8) × List UInt8 × Bool:=ws.foldl stepL ([],n++[58,32],false)
theorem foldL_snoc (n:List UInt8) (ws:List (List UInt8)) (x:List UInt8):foldL n (ws++[x]) = stepL (foldL n ws) x:=by unfold foldL; rw [List.foldl_append]; rfl
theorem foldL_lines (n:List UInt8) (ws:List (List UInt8)):linesW n ws = (onLines (foldL n ws).1++(foldL n ws).2.1,(foldL n ws).2.1.length,(foldL n ws).2.2):=by
 induction ws using snoc_ind with
 | h0=>simp [linesW,begin,foldL,onLines]
 | h1 ws x ih =>
  rw [linesW_snoc,foldL_snoc,ih]
  unfold stepW stepL
  split
  ·simp [onLines]
  ·simp
def fieldL (n v:List UInt8):List (List UInt8):=(foldL n (wordsS v)).1++[(foldL n (wordsS v)).2.1]
theorem fieldS_lines (n v:List UInt8):fieldS n v = onLines (fieldL n v):=by
 unfold fieldS fieldL
 rw [foldL_lines,onLines_append,onLines_one]
 simp
def Single (z:List UInt8):Prop:=∃ k u,z = List.replicate (k+1) 32++u∧(32:UInt8) ∉ u
def Cont (z:List UInt8):Prop:=(∃ t,z = 32 :: t)∧(z.length ≤ 76 ∨ Single z)
theorem Single.head {z:List UInt8} (h:Single z):∃ t,z = 32 :: t:=by
 obtain ⟨k,u,rfl,_⟩:=h
 exact ⟨List.replicate k 32++u,by rw [List.replicate_succ]; rfl⟩
theorem words_single (v:List UInt8) (k:Nat):∀ ws wd,Phase v k ws wd → k ≤ v.length → (∀ w ∈ ws.tail,Single w)∧(ws ≠ [] → Single wd):=by
 induction k with
 | zero =>
  intro ws wd h _
  rcases h with ⟨_,f,h1,_⟩ | ⟨h,_⟩
  ·have:ws = []:=(congrArg Prod.fst h1).symm
   rw [this]
   exact ⟨fun w hw=>absurd hw (by simp),fun h=>absurd rfl h⟩
  ·omega
 | succ k ih =>
  intro ws wd h hk
  rcases h with ⟨_,f,h1,hwd⟩ | ⟨h,_⟩
  ·obtain ⟨ws0,f0,h0⟩:∃ ws0 f0,wordsTo v k = (ws0,f0):=⟨_,_,rfl⟩
   have hf0:=wordsTo_le v k
   rw [h0] at hf0
   simp only at hf0
   have hp:Phase v k ws0 ((v.drop f0).take (k - f0)):=.inl ⟨by omega,f0,h0,rfl⟩
   obtain ⟨i1,i2⟩:=ih _ _ hp (by omega)
   have hkl:k < v.length:=by omega
   have hgk:v[k]? = some v[k]:=List.getElem?_eq_getElem hkl
   rw [wordsTo_succ v k h0] at h1
   by_cases hc:cutP v k = true
   ·rw [if_pos hc] at h1
    simp only [Prod.mk.injEq] at h1
    obtain ⟨rfl,rfl⟩:=h1
    constructor
    ·intro w hw
     cases ws0 with
     | nil=>simp at hw
     | cons a ws0 =>
      simp only [List.cons_append,List.tail_cons] at hw i1
      rcases List.mem_append.1 hw with h | h
      ·exact i1 w h
      ·rw [List.mem_singleton.1 h]
       exact i2 (by simp)
    ·intro _
     have e:k+1 - k = 0+1:=by omega
     rw [hwd,e,List.take_add_one,List.getElem?_drop,Nat.add_zero,hgk]
     have h32:v[k] = 32:=by
      unfold cutP at hc
      simp only [Bool.and_eq_true] at hc
      have:=hc.1.2
      rw [List.getD_eq_getElem?_getD,hgk] at this
      simpa using this
     exact ⟨0,[],by rw [h32]; rfl,by simp⟩
   ·rw [if_neg hc] at h1
    simp only [Prod.mk.injEq] at h1
    obtain ⟨rfl,rfl⟩:=h1
    refine ⟨i1,fun hne=>?_⟩
    obtain ⟨j,u,hz,hu⟩:=i2 hne
    have e:k+1 - f0 = k - f0+1:=by omega
    have e2:f0+(k - f0) = k:=by omega
    have ew:wd = (v.drop f0).take (k - f0)++[v[k]]:=by
     rw [hwd,e,List.take_add_one,List.getElem?_drop,e2,hgk]; rfl
    rw [hz] at ew
    by_cases h32:v[k] = 32
    ·have hu0:u = []:=by
      rcases List.eq_nil_or_concat u with h | ⟨u',c,rfl⟩
      ·exact h
      ·exfalso
       have hc32:c ≠ 32:=fun h=>hu (by rw [h]; simp)
       have hlast:((v.drop f0).take (k - f0)).getLast? = some c:=by rw [hz]; simp
       have hfk:f0 < k:=by
        rcases Nat.lt_or_ge f0 k with h | h
        ·exact h
        ·have:k - f0 = 0:=by omega
         rw [this] at hlast
         simp at hlast
       have hlen:((v.drop f0).take (k - f0)).length = k - f0:=by rw [List.length_take,List.length_drop]; omega
       rw [List.getLast?_eq_getElem?,hlen,List.getElem?_take,if_pos (by omega),List.getElem?_drop] at hlast
       have e3:f0+(k - f0 - 1) = k - 1:=by omega
       rw [e3] at hlast
       apply hc
       unfold cutP
       rw [List.getD_eq_getElem?_getD,List.getD_eq_getElem?_getD,hgk,hlast,h32]
       have h0:decide (0 < k) = true:=decide_eq_true (by omega)
       rw [h0]
       simp [hc32]
     subst hu0
     refine ⟨j+1,[],?_,by simp⟩
     rw [ew,h32]
     simp [List.replicate_succ']
    ·refine ⟨j,u++[v[k]],by rw [ew]; simp,?_⟩
     intro hm
     rcases List.mem_append.1 hm with h | h
     ·exact hu h
     ·exact h32 (List.mem_singleton.1 h).symm
  ·omega
theorem words_tail (v:List UInt8):∀ w ∈ (wordsS v).tail,Single w:=by
 obtain ⟨ws,f,h⟩:∃ ws f,wordsTo v v.length = (ws,f):=⟨_,_,rfl⟩
 have hp:Phase v v.length ws ((v.drop f).take (v.length - f)):=.inl ⟨Nat.le_refl _,f,h,rfl⟩
 obtain ⟨i1,i2⟩:=words_single v v.length _ _ hp (Nat.le_refl _)
 unfold wordsS
 rw [h]
 intro w hw
 cases ws with
 | nil=>simp at hw
 | cons a ws =>
  simp only [List.cons_append,List.tail_cons] at hw i1
  rcases List.mem_append.1 hw with h | h
  ·exact i1 w h
  ·rw [List.mem_singleton.1 h]
   have:=i2 (by simp)
   rw [List.take_of_length_le (by rw [List.length_drop]; exact Nat.le_refl _)] at this
   exact this
def Shape (n:List UInt8) (ws ls:List (List UInt8)):Prop:=∃ a zs,ls = (n++[58,32]++a) :: zs∧a++zs.flatten = ws.flatten∧∀ z ∈ zs,Cont z
theorem foldL_flag (n:List UInt8) (ws:List (List UInt8)):(foldL n ws).2.2 = !ws.isEmpty:=by
 induction ws using snoc_ind with
 | h0=>rfl
 | h1 ws x ih =>
  rw [foldL_snoc]
  unfold stepL
  split <;> simp
theorem shape_fold (n:List UInt8) (ws:List (List UInt8)) (h:∀ w ∈ ws.tail,Single w):Shape n ws ((foldL n ws).1++[(foldL n ws).2.1]):=by
 induction ws using snoc_ind with
 | h0=>exact ⟨[],[],by simp [foldL],rfl,fun z hz=>absurd hz (by simp)⟩
 | h1 ws x ih =>
  have ht:∀ w ∈ ws.tail,Single w:=fun w hw=>h w (by
   cases ws with
   | nil=>simp at hw
   | cons a ws=>simp only [List.cons_append,List.tail_cons] at hw ⊢; exact List.mem_append_left _ hw)
  have hx:ws ≠ [] → Single x:=fun hne=>h x (by
   cases ws with
   | nil=>exact absurd rfl hne
   | cons a ws=>simp)
  obtain ⟨a,zs,h1,h2,h3⟩:=ih ht
  have hfl:=foldL_flag n ws
  rw [foldL_snoc]
  generalize foldL n ws = q at h1 hfl
  obtain ⟨done,cur,b⟩:=q
  simp only at h1 hfl
  unfold stepL
  simp only
  split
  ·rename_i hb
   simp only [Bool.and_eq_true,decide_eq_true_eq] at hb
   have hne:ws ≠ []:=by
    intro e
    rw [hfl,e] at hb
    exact absurd hb.1 (by simp)
   refine ⟨a,zs++[x],?_,?_,?_⟩
   ·simp only
    rw [h1]; rfl
   ·simp only [List.flatten_append,List.flatten_cons,List.flatten_nil,List.append_nil]
    rw [← List.append_assoc,h2]
   ·intro z hz
    rcases List.mem_append.1 hz with h | h
    ·exact h3 z h
    ·rw [List.mem_singleton.1 h]
     exact ⟨(hx hne).head,.inr (hx hne)⟩
  ·rename_i hb
   simp only
   cases done with
   | nil =>
    simp only [List.nil_append,List.cons.injEq] at h1 ⊢
    obtain ⟨rfl,rfl⟩:=h1
    refine ⟨a++x,[],by simp,?_,fun z hz=>absurd hz (by simp)⟩
    simp only [List.flatten_nil,List.append_nil] at h2 ⊢
    rw [List.flatten_append,← h2]; simp
   | cons d ds =>
    simp only [List.cons_append,List.cons.injEq] at h1
    obtain ⟨rfl,rfl⟩:=h1
    have hcur:=h3 cur (by simp)
    have hne:ws ≠ []:=by
     intro e
     rw [e] at h2
     simp at h2
     obtain ⟨⟨t,ht'⟩,_⟩:=hcur
     have:=h2.2.2
     rw [ht'] at this
     simp at this
    have hb':¬ 76 < cur.length+x.length:=by
     intro hh
     apply hb
     rw [hfl]
     have:ws.isEmpty = false:=by cases ws <;> simp_all
     rw [this]
     simp [hh]
    refine ⟨a,ds++[cur++x],by simp,?_,?_⟩
    ·simp only [List.flatten_append,List.flatten_cons,List.flatten_nil,List.append_nil] at h2 ⊢
     rw [← h2]; simp
    ·intro z hz
     rcases List.mem_append.1 hz with h | h
     ·exact h3 z (List.mem_append_left _ h)
     ·rw [List.mem_singleton.1 h]
      obtain ⟨⟨t,ht'⟩,_⟩:=hcur
      exact ⟨⟨t++x,by rw [ht']; rfl⟩,.inl (by rw [List.length_append]; omega)⟩
theorem field_shape (n v:List UInt8):∃ a zs,fieldL n v = (n++[58,32]++a) :: zs∧a++zs.flatten = v∧∀ z ∈ zs,Cont z:=by
 obtain ⟨a,zs,h1,h2,h3⟩:=shape_fold n (wordsS v) (words_tail v)
 rw [wordsS_flat] at h2
 exact ⟨a,zs,h1,h2,h3⟩
end Go.Proofs.YtknhacbfddggpaaGreatDoor
namespace Go.Proofs.YtknhacbfddggpaaGreatDoor
open Go.RowKit
theorem index_at (x t:List UInt8) (d:UInt8) (r:List UInt8) (h:∀ c ∈ x,c ≠ d):Lib.index (x++(d :: r)++t) (d :: r) = (x.length:Nat):=by
 refine Lib.index_first (by simp) ?_ ?_
 ·unfold Lib.occAt
  rw [List.append_assoc,List.drop_left]
  simp
 ·intro j hj
  unfold Lib.occAt
  have e:(x++(d :: r)++t).drop j = x[j] :: (x.drop (j+1)++(d :: r)++t):=by
   rw [List.append_assoc,List.drop_append_of_le_length (by omega),List.drop_eq_getElem_cons hj,List.append_assoc]
   rfl
  rw [e]
  have hne:(d == x[j]) = false:=by
   rw [beq_eq_false_iff_ne]
   exact fun e=>h x[j] (List.getElem_mem hj) e.symm
  simp [List.isPrefixOf,hne]
theorem cut_first (x t:List UInt8) (d:UInt8) (r:List UInt8) (h:∀ c ∈ x,c ≠ d):Lib.cut (x++(d :: r)++t) (d :: r) = (x,t,true):=by
 have hi:=index_at x t d r h
 unfold Lib.cut
 rw [hi,if_pos (by omega)]
 have e:((x.length:Nat):Int).toNat = x.length:=by omega
 rw [e]
 have e1:(x++(d :: r)++t).take x.length = x:=by rw [List.append_assoc]; exact List.take_left
 have e2:(x++(d :: r)++t).drop (x.length+(d :: r).length) = t:=by
  rw [← List.length_append]
  exact List.drop_left
 rw [e1,e2]
theorem hl_join (ls:List (List UInt8)) (rest:List UInt8) (h1:∀ x ∈ ls,x ≠ []) (h2:∀ x ∈ ls,∀ c ∈ x,c ≠ 13):hl (onLines ls++[13,10]++rest) = (ls,rest):=by
 induction ls with
 | nil =>
  have e:onLines []++[13,10]++rest = []++(13 :: [10])++rest:=rfl
  have hc:Lib.cut ([]++(13 :: [10])++rest) crlfL = ([],rest,true):=cut_first [] rest 13 [10] (by simp)
  rw [e,hl_stop _ (by simp) (by rw [hc]),hc]
 | cons x ls ih =>
  have e:onLines (x :: ls)++[13,10]++rest = x++(13 :: [10])++(onLines ls++[13,10]++rest):=by simp [onLines]
  have hc:Lib.cut (x++(13 :: [10])++(onLines ls++[13,10]++rest)) crlfL = (x,onLines ls++[13,10]++rest,true):=cut_first x _ 13 [10] (h2 x List.mem_cons_self)
  rw [e,hl_on _ (by simp) (by rw [hc]; exact h1 x List.mem_cons_self),hc,ih (fun y hy=>h1 y (List.mem_cons_of_mem _ hy)) (fun y hy=>h2 y (List.mem_cons_of_mem _ hy))]
def bodyF (f:Fl):FB:=(f.1.data.toList,32 :: f.2.data.toList)
def allLines (L:List Fl):List (List UInt8):=(L.map fun f=>fieldL f.1.data.toList f.2.data.toList).flatten
theorem fieldsB_lines (L:List Fl):fieldsB L = onLines (allLines L):=by
 induction L with
 | nil=>rfl
 | cons f L ih =>
  have e1:fieldsB (f :: L) = fieldS f.1.data.toList f.2.data.toList++fieldsB L:=rfl
  have e2:allLines (f :: L) = fieldL f.1.data.toList f.2.data.toList++allLines L:=rfl
  rw [e1,e2,fieldS_lines,ih,onLines_append]
theorem nameC_ne {c:UInt8} (h:nameC c = true):c ≠ 13∧c ≠ 58∧c ≠ 32∧blk c = false:=by
 simp only [nameC,Bool.and_eq_true,decide_eq_true_eq] at h
 have h13:c ≠ 13:=fun e=>by rw [e] at h; exact absurd h.1.1 (by decide)
 have h58:c ≠ 58:=fun e=>by rw [e] at h; exact absurd rfl h.2
 have h32:c ≠ 32:=fun e=>by rw [e] at h; exact absurd h.1.1 (by decide)
 have h9:c ≠ 9:=fun e=>by rw [e] at h; exact absurd h.1.1 (by decide)
 refine ⟨h13,h58,h32,?_⟩
 unfold blk
 simp [h32,h9]
theorem sayC_ne {c:UInt8} (h:sayC c = true):c ≠ 13:=by
 intro e
 rw [e] at h
 exact absurd h (by decide)
theorem right_parts {f:Fl} (h:rightF f = true):f.1.data.toList ≠ []∧(∀ c ∈ f.1.data.toList,nameC c = true)∧(∀ c ∈ f.2.data.toList,sayC c = true)∧trimS f.2.data.toList = f.2.data.toList∧nameS f.1.data.toList = true∧saysS f.2.data.toList = true:=by
 unfold rightF at h
 simp only [Bool.and_eq_true] at h
 obtain ⟨hn,hs⟩:=h
 have hn':=hn
 have hs':=hs
 unfold nameS at hn
 unfold saysS at hs
 simp only [Bool.and_eq_true,Bool.not_eq_true',decide_eq_true_eq,List.all_eq_true] at hn hs
 refine ⟨fun e=>?_,hn.2,hs.1,hs.2,hn',hs'⟩
 rw [e] at hn
 exact absurd hn.1 (by simp)
theorem lines_plain (f:Fl) (h:rightF f = true):∀ x ∈ fieldL f.1.data.toList f.2.data.toList,x ≠ []∧∀ c ∈ x,c ≠ 13:=by
 obtain ⟨_,hn,hs,_⟩:=right_parts h
 obtain ⟨a,zs,h1,h2,h3⟩:=field_shape f.1.data.toList f.2.data.toList
 rw [h1]
 intro x hx
 rcases List.mem_cons.1 hx with rfl | hx
 ·refine ⟨by simp,fun c hc=>?_⟩
  rcases List.mem_append.1 hc with hc | hc
  ·rcases List.mem_append.1 hc with hc | hc
   ·exact (nameC_ne (hn c hc)).1
   ·have:c = 58 ∨ c = 32:=by simpa using hc
    rcases this with rfl | rfl <;> decide
  ·exact sayC_ne (hs c (by rw [← h2]; exact List.mem_append_left _ hc))
 ·obtain ⟨⟨t,ht⟩,_⟩:=h3 x hx
  refine ⟨by rw [ht]; simp,fun c hc=>sayC_ne (hs c ?_)⟩
  rw [← h2]
  exact List.mem_append_right _ (List.mem_flatten.2 ⟨x,hx,hc⟩)
theorem all_plain (L:List Fl) (h:L.all rightF = true):∀ x ∈ allLines L,x ≠ []∧∀ c ∈ x,c ≠ 13:=by
 intro x hx
 unfold allLines at hx
 obtain ⟨l,hl,hx⟩:=List.mem_flatten.1 hx
 obtain ⟨f,hf,rfl⟩:=List.mem_map.1 hl
 exact lines_plain f (List.all_eq_true.1 h f hf) x hx
theorem refRun_one (f:Fl) (h:rightF f = true) (more:List (List UInt8)) (n:Nat) (acc:List FB):∃ m,refRun (fieldL f.1.data.toList f.2.data.toList++more) n acc = refRun more m (acc++[bodyF f]):=by
 obtain ⟨hne,hn,_,_,hnm,_⟩:=right_parts h
 obtain ⟨a,zs,h1,h2,h3⟩:=field_shape f.1.data.toList f.2.data.toList
 have hfo:fieldOf (f.1.data.toList++[58,32]++a) = some (f.1.data.toList,32 :: a):=by
  have hc:Lib.cut (f.1.data.toList++[58,32]++a) [58] = (f.1.data.toList,32 :: a,true):=by
   have e:f.1.data.toList++[58,32]++a = f.1.data.toList++(58 :: [])++(32 :: a):=by simp
   rw [e]
   exact cut_first _ _ 58 [] fun c hc=>(nameC_ne (hn c hc)).2.1
  exact fieldOf_some hc hnm
 have hgo:goes (f.1.data.toList++[58,32]++a) = false:=by
  cases hl:f.1.data.toList with
  | nil=>exact absurd hl hne
  | cons c l=>exact (nameC_ne (hn c (by rw [hl]; simp))).2.2.2
 have hz:∀ z ∈ zs,goes z = true:=fun z hz=>by
  obtain ⟨⟨t,ht⟩,_⟩:=h3 z hz
  rw [ht]; rfl
 refine ⟨n+1+zs.length,?_⟩
 rw [h1,List.cons_append,refRun_field hfo (by rw [hgo]; rfl),refRun_goes zs more (n+1) acc _ hz]
 have:(32 :: a:List UInt8)++zs.flatten = 32 :: f.2.data.toList:=by rw [← h2]; rfl
 rw [this]; rfl
theorem refRun_all (L:List Fl) (h:L.all rightF = true):∀ (n:Nat) (acc:List FB),refRun (allLines L) n acc = .ok (acc++L.map bodyF):=by
 induction L with
 | nil=>intro n acc; simp [allLines,refRun]
 | cons f L ih =>
  intro n acc
  simp only [List.all_cons,Bool.and_eq_true] at h
  have e:allLines (f :: L) = fieldL f.1.data.toList f.2.data.toList++allLines L:=rfl
  obtain ⟨m,hm⟩:=refRun_one f h.1 (allLines L) n acc
  rw [e,hm,ih h.2]
  simp
theorem read_back (L:List Fl) (h:L.all rightF = true) (rest:List UInt8):refRun (hl (fieldsB L++[13,10]++rest)).1 0 [] = .ok (L.map bodyF)∧(hl (fieldsB L++[13,10]++rest)).2 = rest:=by
 rw [fieldsB_lines,hl_join _ rest (fun x hx=>(all_plain L h x hx).1) (fun x hx=>(all_plain L h x hx).2)]
 exact ⟨by rw [refRun_all L h]; rfl,rfl⟩
theorem trim_body (f:Fl) (h:rightF f = true):trimS (32 :: f.2.data.toList) = f.2.data.toList:=by
 obtain ⟨_,_,_,ht,_⟩:=right_parts h
 have e:dropB (32 :: f.2.data.toList) = dropB f.2.data.toList:=rfl
 unfold trimS at ht ⊢
 rw [e,ht]
end Go.Proofs.YtknhacbfddggpaaGreatDoor
