import Derived.Test.YtkldkhdigkpniaaGreatDoorZ6
import Derived.Test.YtkldkhdigkpniaaGreatDoorZ15
import Derived.Lib.Split
set_option maxHeartbeats 3200000
set_option maxRecDepth 100000
open List renaming mem_append → GL, mem_singleton → VQ, length_append → Ws, take_append_drop → Xu, flatten_append → ZV, getElem?_drop → ZW, getElem?_eq_getElem → ZX, cons_append → ZY, append_assoc → ZZ, length_drop → Z0, length_map → Z4, getElem_mem → Z5, length_take → Z6, getElem?_take → Z7, flatten_cons → Z8, getElem?_map → Z9, takeWhile_cons → aaa, all_cons → aab, take_of_length_le → aac, tail_cons → aad, getD_eq_getElem?_getD → aae, mem_append_left → aaf, flatten_nil → aag, append_nil → aah, getElem?_eq_some_iff → aai, mem_map → aaj, mem_cons → aak, drop_eq_getElem_cons → aal, map_append → aam, take_add_one → aan, drop_left → aao, mem_cons_self → aap, mem_cons_of_mem → aaq, all_eq_true → aar, mem_flatten → aas
open Nat renaming le_refl → aat, zero_le → aau
open Bool renaming and_eq_true → aav
namespace Go.Proofs.YtkldkhdigkpniaaGreatDoor
open Go.RowKit Go.Proofs.Tryz
theorem xq{x:aa}{a b:aa}(hc:Lib.cut x [58]=(a,b,true))(hn:jY a=true):il x=some (a,b):=by unfold il;rw[hc];simp[hn]
theorem LW{x:aa}{a b:aa}(hc:Lib.cut x [58]=(a,b,false)):il x=none:=by unfold il;rw[hc];simp
theorem Jg{x:aa}{a b:aa}{f:Bool}(hc:Lib.cut x [58]=(a,b,f))(hn:jY a=false):il x=none:=by unfold il;rw[hc];simp[hn]
theorem bJ.mono{w:World}{B B':Nat}{v:Value}{L:List Fl}(h:bJ w B v L)(hB:B'<=B):bJ w B' v L:=by
 obtain⟨h1,h2⟩:=h
 refine⟨h1,?_⟩
 rcases h2 with h2|⟨g,cap,cur,a,b,c⟩
 ·exact .inl h2
 ·exact .inr ⟨g,cap,cur,a,Nat.le_trans hB b,c⟩
def ZP(s:aa)(w':World)(B:Nat)(v:Value)(r:ByteArray)(L:List Fl):Prop:=dm (hl s).1 0 []=.ok (L.map fl2)/\bJ w' B v L/\lW L/\r.data.toList=(hl s).2
theorem Vk(A:Option Addr)(g n m cap c:Nat)(ss:List ByteArray)(w:World)(hA:n+1<m->A=some ⟨g,n+1,none⟩/\c=cap - (n+1))(hc:∀k (hk:k<ss.length),w.cell? ⟨g,k,none⟩=some (.string ss[k]))(hg:g<w.heap.size)(h1:n+1<=m)(h2:m<=ss.length)(hcap:ss.length<=cap)(hl:(ss.map lst).flatten.length<=1000000)(hn:ss.length<=1000000):
  Calls prog 65 #[.slice A (m - (n+1)) c,.string ⟨#[]⟩] w fun e w'=>∃t:ByteArray,e=.returned (.string t)/\t.data.toList=(((ss.map lst).drop (n+1)).take (m - (n+1))).flatten/\Below w.heap.size w w':=by
 by_cases h0:m=n+1
 ·subst h0
  rw[Nat.sub_self]
  refine(Tryz.strings_Join_none A c ⟨#[]⟩ w).mono ?_
  rintro e w' ⟨rfl,rfl⟩
  exact⟨_,rfl,by simp,Below.refl _ _⟩
 ·obtain⟨rfl,rfl⟩:=hA (by omega)
  have hlen:((ss.drop (n+1)).take (m - (n+1))).length=m - (n+1):=by rw[Z6,Z0];omega
  have hfl:Lib.join (((ss.drop (n+1)).take (m - (n+1))).map (·.data.toList)) []=(((ss.map lst).drop (n+1)).take (m - (n+1))).flatten:=by
   rw[Na,List.map_take,List.map_drop];rfl
  have hle:(((ss.map lst).drop (n+1)).take (m - (n+1))).flatten.length<=(ss.map lst).flatten.length:=by
   have h1:=Xu (n+1) (ss.map lst)
   have h2:=Xu (m - (n+1)) ((ss.map lst).drop (n+1))
   rw[<-h2]at h1
   have h3:=congrArg (fun z=>z.flatten.length) h1
   simp only[ZV,Ws]at h3
   omega
  have:=Tryz.strings_Join g (n+1) (cap - (n+1)) ((ss.drop (n+1)).take (m - (n+1))) ⟨#[]⟩ w (fun j x hj=>by
   have hj1:j<m - (n+1):=by
    have:=(aai.1 hj).1
    rw[hlen]at this;exact this
   rw[Z7,if_pos hj1,ZW]at hj
   have hj2:n+1+j<ss.length:=by omega
   rw[ZX hj2]at hj
   rw[hc _ hj2,Option.some.inj hj]) hg (by omega) (by omega) (by
    show(Lib.join _ []).length<=_
    rw[hfl];omega)
  rw[hlen]at this
  refine this.mono ?_
  rintro e w' ⟨rfl,hb⟩
  exact⟨_,rfl,hfl,hb⟩
theorem TI(s:ByteArray)(w:World)(hs:s.size<=100000)(hm:Max w):
  Calls prog 254 #[.string s] w fun e w'=>((∃(n:Nat) (E:Value),dm (hl s.data.toList).1 0 []=.error n/\e=.returned (.tuple #[.slice none 0 0,.string ⟨#[]⟩,E])/\Ty w' E 3 n) \/
   (∃v r L,e=.returned (.tuple #[v,.string r,.nilIface])/\ZP s.data.toList w' w.heap.size v r L))/\Below w.heap.size w w':=by
 have hw0:=hm.1
 have HMx:=Box.m hm
 have hf1:=Gt _ s.data.toList af
 have hf2:=Gy _ s.data.toList af
 clear hm
 go_enter func254,ntmps254
 go_wp2_with fail
 refine(DW s _ hs HMx.o).mono ?_
 rintro e w1 ⟨x,ss,r,rfl,hownS,hss,hr,hb1⟩
 have HSS:=Box.m hss
 have HRr:=Box.m hr
 rw[<-hss]at hf1 hf2
 rw[ae]at hf1
 have hcnt:=M5 _ hf2
 rw[Z4]at hcnt
 have hfl:(ss.map lst).flatten.length<=s.size:=by omega
 have HF2:Box (∀a∈ss,0<a.size/\a.size<=s.size):=⟨fun a ha=>by
  have h1:lst a∈ss.map lst:=aaj.2 ⟨a,ha,rfl⟩
  have h2:=hf2 _ h1
  have h3:∀(ws:List (aa)) (x:aa),x∈ws->x.length<=ws.flatten.length:=by
   intro ws x h
   induction ws with
   | nil=>exact absurd h (by simp)
   | cons y ws ih=>
    rw[Z8,Ws]
    rcases aak.1 h with rfl|h
    ·omega
    ·have:=ih h;omega
  have h4:=h3 _ _ h1
  have h5:=List.length_pos_iff.2 h2
  rw[lst,ae]at h4 h5
  omega⟩
 clear hss hr hf1 hf2
 obtain⟨A,cap,hx,hcap,HCl⟩:∃A cap,x=.slice A ss.length cap/\ss.length<=cap/\Box (∀k (hk:k<ss.length),∃g,A=some ⟨g,0,none⟩/\g<w1.heap.size/\∀j (hj:j<ss.length),w1.cell? ⟨g,j,none⟩=some (.string ss[j])):=by
  rcases hownS.shape with⟨rfl,rfl⟩|⟨g,cap,rfl,_,hgs,hcap,_,hc⟩
  ·exact⟨none,0,rfl,aat _,⟨fun k hk=>absurd hk (by simp)⟩⟩
  ·exact⟨_,cap,rfl,hcap,⟨fun k hk=>⟨g,rfl,hgs,hc⟩⟩⟩
 subst hx
 obtain⟨R,HR⟩:∃R,Box (R=dm (ss.map lst) 0 []):=⟨_,⟨rfl⟩⟩
 have HRf:Box (dm (hl s.data.toList).1 0 []=R):=⟨by rw[HR.o,HSS.o]⟩
 have hM1:=HMx.o.below hb1 hw0
 have HM1:=Box.m hM1
 have hw1:=hM1.1
 clear hownS HMx hM1
 go_wp2
 go_loopw [7,8] (fun v i wr=>∃(n:Nat) (acc:List Fl),n<=ss.length/\i=.int .i64 n/\bJ wr w1.heap.size v acc/\Below w1.heap.size w1 wr/\acc.length<=n/\Box (∀f∈acc,f.1.size<=1000000/\f.2.size<=1000000)/\Box (dm ((ss.map lst).drop n) n (acc.map fl2)=R)/\Box (acc≠[]->∀x,(ss.map lst)[n]?=some x->o6 x=false)) (fun _ i _=>ss.length - (intOf i).toNat)
 case atStart=>exact⟨0,[],aau _,rfl,bJ.nil _ _,Below.refl _ _,aat _,⟨fun f hf=>absurd hf (by simp)⟩,⟨HR.o.symm⟩,⟨fun h=>absurd rfl h⟩⟩
 case round=>
  obtain⟨n,acc,hn,rfl,hown,hb,hacc,HT,HRun,HG⟩:=hrel
  have hsz:=hb.size
  by_cases hlt:n<ss.length
  ·obtain⟨g,rfl,hgs,hcl⟩:=HCl.o n hlt
   have HCw:Box (∀j (hj:j<ss.length),wr.cell? ⟨g,j,none⟩=some (.string ss[j])):=⟨fun j hj=>(hb.cell (p:=⟨g,j,none⟩) hgs).trans (hcl j hj)⟩
   have hcx:=HCw.o n hlt
   obtain⟨a,ha⟩:∃a,a=ss[n]:=⟨_,rfl⟩
   rw[<-ha]at hcx
   have has:=HF2.o ss[n] (Z5 hlt)
   rw[<-ha]at has
   have HD:Box ((ss.map lst).drop n=a.data.toList::(ss.map lst).drop (n+1)):=⟨by
    have hl':n<(ss.map lst).length:=by rw[Z4];exact hlt
    rw[aal hl',List.getElem_map,<-ha];rfl⟩
   have HGf:Box ((o6 a.data.toList&&!(acc.map fl2).isEmpty)=false):=⟨by
    cases acc with
    | nil=>simp
    | cons f acc=>
     have:=HG.o (by simp) a.data.toList (by rw[Z9,ZX hlt,<-ha];rfl)
     rw[this];rfl⟩
   clear hcl ha HG HCl
   go_wp2_with fail
   refine(qL a ⟨#[58]⟩ _ (by omega) (HM1.o.below hb hw1)).mono ?_
   rintro e w2 ⟨nm,vl,f,rfl,hc,hnm,hvl,hb2⟩
   have HCu:Box (Lib.cut a.data.toList [58]=(nm.data.toList,vl.data.toList,f)):=⟨hc⟩
   have hb3:=hb.trans (hb2.mono hsz)
   have hown2:=hown.below hb2 af
   have HC2:Box (∀j (hj:j<ss.length),w2.cell? ⟨g,j,none⟩=some (.string ss[j])):=⟨fun j hj=>(hb2.cell (p:=⟨g,j,none⟩) (by show g<_;omega)).trans (HCw.o j hj)⟩
   have hsz3:=hb3.size
   clear hc hown HCw hcx
   cases f
   ·have HE:Box (R=.error n):=⟨by rw[<-HRun.o,HD.o,zo (LW HCu.o) HGf.o]⟩
    clear HRun HD HGf HCu HC2 HF2 HT HSS HRr
    go_wp2
    exact bodyPost_ret (v:=.tuple #[.slice none 0 0,.string ⟨#[]⟩,.iface 130 (.pointer (some ⟨w2.heap.size,0,none⟩))]) (by simp[results,results254,go_sem]) rfl ⟨.inl ⟨n,_,by rw[HRf.o,HE.o],rfl,⟨_,rfl,by simp,by simp⟩⟩,hb1.trans ((hb3.alloc hsz3 _).mono hb1.size)⟩
   ·cases hnn:jY nm.data.toList
    ·have HE:Box (R=.error n):=⟨by rw[<-HRun.o,HD.o,zo (Jg HCu.o hnn) HGf.o]⟩
     clear HRun HD HGf HCu HC2 HF2 HT HSS HRr
     go_wp2_with (go_at_call 272;refine(ny _ _ (by omega)).mono ?_;rintro e w2 ⟨rfl,rfl⟩)
     exact bodyPost_ret (v:=.tuple #[.slice none 0 0,.string ⟨#[]⟩,.iface 130 (.pointer (some ⟨w2.heap.size,0,none⟩))]) (by simp[results,results254,go_sem]) rfl ⟨.inl ⟨n,_,by rw[HRf.o,HE.o],rfl,⟨_,rfl,by simp,by simp⟩⟩,hb1.trans ((hb3.alloc hsz3 _).mono hb1.size)⟩
    ·have HS1:Box (dm ((ss.map lst).drop (n+1)) (n+1) (acc.map fl2++[(nm.data.toList,vl.data.toList)])=R):=⟨by rw[<-HRun.o,HD.o,yg (xq HCu.o hnn) HGf.o]⟩
     clear HRun HD HGf HCu
     go_wp2_with (go_at_call 272;refine(ny _ _ (by omega)).mono ?_;rintro e w2 ⟨rfl,rfl⟩)
     go_loop [12] (fun i=>∃m:Nat,n+1<=m/\m<=ss.length/\i=.int .i64 m/\Box (∀j (hj:j<ss.length),n+1<=j->j<m->o6 (lst ss[j])=true)) (fun i=>ss.length - (intOf i).toNat)
     case atStart=>exact⟨n+1,aat _,by omega,by go_num,⟨fun j _ h1 h2=>absurd h1 (by omega)⟩⟩
     case round=>
      obtain⟨m,hm1,hm2,rfl,HGo⟩:=hrel
      by_cases hgo:∃h:m<ss.length,o6 (lst ss[m])=true
      ·obtain⟨hml,hgm⟩:=hgo
       have hcm:=HC2.o m hml
       have hsm:=HF2.o ss[m] (Z5 hml)
       have HGo':Box (∀j (hj:j<ss.length),n+1<=j->j<m+1->o6 (lst ss[j])=true):=⟨fun j hj h1 h2=>by
        by_cases hjm:j=m
        ·subst hjm;exact hgm
        ·exact HGo.o j hj h1 (by omega)⟩
       obtain⟨z,hz⟩:∃z,z=ss[m]:=⟨_,rfl⟩
       rw[<-hz]at hcm hsm hgm
       have hgm':o6 z.data.toList=true:=hgm
       clear hz hgm HGo
       go_wp2_with (go_at_call 273;refine(CL _ _ hsm.1).mono ?_;rintro e w2 ⟨rfl,rfl⟩)
       go_round
       case rel=>exact⟨m+1,by omega,by omega,by go_num,HGo'⟩
       case measure=>simp[intOf];omega
      ·have HEnd:Box (∀x,(ss.map lst)[m]?=some x->o6 x=false):=⟨fun x hx=>by
        rw[Z9]at hx
        by_cases hml:m<ss.length
        ·rw[ZX hml]at hx
         have hx':lst ss[m]=x:=by simpa using hx
         rw[<-hx']
         cases hq:o6 (lst ss[m])
         ·rfl
         ·exact absurd ⟨hml,hq⟩ hgo
        ·rw[List.getElem?_eq_none (by omega)]at hx
         simp at hx⟩
       have hx:¬m<ss.length\/∃h:m<ss.length,o6 (lst ss[m])=false:=by
        by_cases hml:m<ss.length
        ·right
         refine⟨hml,?_⟩
         cases hq:o6 (lst ss[m])
         ·rfl
         ·exact absurd ⟨hml,hq⟩ hgo
        ·exact .inl hml
       clear hgo
       have HS2:Box (dm ((ss.map lst).drop m) m (acc.map fl2++[(nm.data.toList,vl.data.toList++(((ss.map lst).drop (n+1)).take (m - (n+1))).flatten)])=R):=⟨by
        have e1:(ss.map lst).drop (n+1)=((ss.map lst).drop (n+1)).take (m - (n+1))++(ss.map lst).drop m:=by
         have:=Xu (m - (n+1)) ((ss.map lst).drop (n+1))
         rw[List.drop_drop]at this
         have e2:n+1+(m - (n+1))=m:=by omega
         rw[e2]at this
         exact this.symm
        have e3:(((ss.map lst).drop (n+1)).take (m - (n+1))).length=m - (n+1):=by rw[Z6,Z0,Z4];omega
        have:=zm (((ss.map lst).drop (n+1)).take (m - (n+1))) ((ss.map lst).drop m) (n+1) (acc.map fl2) (nm.data.toList,vl.data.toList) (fun z hz=>by
         obtain⟨j,hj⟩:=List.getElem?_of_mem hz
         have hj1:j<m - (n+1):=by
          have:=(aai.1 hj).1
          rw[e3]at this;exact this
         rw[Z7,if_pos hj1,ZW,Z9,ZX (by omega)]at hj
         have hj':lst (ss[n+1+j]'(by omega))=z:=by simpa using hj
         rw[<-hj']
         exact HGo.o _ (by omega) (by omega) (by omega))
        rw[<-e1,e3]at this
        have e4:n+1+(m - (n+1))=m:=by omega
        rw[e4]at this
        rw[<-this,HS1.o]⟩
       clear HS1 HGo
       have hmn:n+1<=m:=hm1
       have hcapm:m<=cap:=by omega
       have hjn:=fun A c hA=>Vk A g n m cap c ss w2 hA HC2.o (by omega) hm1 hm2 hcap (by omega) (by omega)
       have HJn:=Box.m hjn
       have HFl:Box ((((ss.map lst).drop (n+1)).take (m - (n+1))).flatten.length<=s.size):=⟨by
        have h1:=Xu (n+1) (ss.map lst)
        have h2:=Xu (m - (n+1)) ((ss.map lst).drop (n+1))
        rw[<-h2]at h1
        have h3:=congrArg (fun z=>z.flatten.length) h1
        simp only[ZV,Ws]at h3
        omega⟩
       clear hjn
       obtain⟨Ad,hAd,HAd⟩:∃Ad:Addr,(if cap=n+1 then some (⟨g,0,none⟩:Addr) else some ⟨g,n+1,none⟩)=some Ad/\Box (n+1<m->Ad=⟨g,n+1,none⟩):=by
        by_cases h:cap=n+1
        ·exact⟨_,if_pos h,⟨fun h'=>by omega⟩⟩
        ·exact⟨_,if_neg h,⟨fun _=>rfl⟩⟩
       have HX:Box (¬m<ss.length\/∃h:m<ss.length,o6 (lst ss[m])=false):=⟨hx⟩
       have fin:Box (∀t:ByteArray,t.data.toList=(((ss.map lst).drop (n+1)).take (m - (n+1))).flatten->t.size<=s.size/\(∀f∈acc++[(nm,vl++t)],f.1.size<=1000000/\f.2.size<=1000000)/\dm ((ss.map lst).drop m) m ((acc++[(nm,vl++t)]).map fl2)=R):=⟨fun t ht=>by
        have h1:t.size<=s.size:=by rw[<-ae,ht];exact HFl.o
        refine⟨h1,fun f hf=>?_,?_⟩
        ·rcases GL.1 hf with h|h
         ·exact HT.o f h
         ·obtain rfl:=VQ.1 h
          refine⟨by show nm.size<=_;omega,?_⟩
          show(vl++t).size<=_
          rw[ByteArray.size_append];omega
        ·rw[<-HS2.o,<-ht]
         simp[fl2]⟩
       have hx':¬m<ss.length\/∃z:ByteArray,m<ss.length/\0<z.size/\o6 z.data.toList=false/\w2.cell? ⟨g,m,none⟩=some (.string z):=by
        rcases hx with h|⟨h,h'⟩
        ·exact .inl h
        ·exact .inr ⟨ss[m],h,(HF2.o _ (Z5 h)).1,h',HC2.o m h⟩
       clear HS2 HFl HT hx HX HC2 HF2
       rcases hx' with hx1|⟨z,hx1,hz2,hz3,hz4⟩
       all_goals
         go_wp2_with (go_at_call 273;refine(CL _ _ hz2).mono ?_;rintro e w2 ⟨rfl,rfl⟩)
         all_goals
          refine(HJn.o _ _ (fun h=>?_)).mono ?_
          ·exact⟨by rw[HAd.o h],rfl⟩
          rintro e w5 ⟨t,rfl,ht,hb5⟩
          obtain⟨f1,f2,f3⟩:=fin.o t ht
          have HF2':=Box.m f2
          have HF3':=Box.m f3
          have hb6:=hb3.trans (hb5.mono hsz3)
          have hown5:=hown2.below hb5 af
          have hsz6:=hb6.size
          clear fin ht f2 f3 HJn
          go_wp2_with (at_builtin;refine GU (w5.alloc (.cells #[.string nm,.string (vl++t)] 147)) w1 rfl (.tmp 65) (.tmp 69) rfl w1.heap.size u7 acc rfl (World.ownsRow.alloc hown5 _) w5.heap.size 1 (nm,vl++t) rfl (by simp) (by simp) (by omega) (by simp;omega) (hb6.alloc hsz6 _) ?_;intro v' w6 hown6 hb7)
          go_roundw
          case rel=>exact⟨m,acc++[(nm,vl++t)],hm2,rfl,hown6,hb7,by simp;omega,HF2',HF3',⟨fun _=>HEnd.o⟩⟩
          case measure=>simp[intOf];omega
  ·have HE:Box (R=.ok (acc.map fl2)):=⟨by rw[<-HRun.o,List.drop_of_length_le (by rw[Z4];omega)];rfl⟩
   clear HRun HG HCl HF2
   go_wp2
   exact bodyPost_ret (v:=.tuple #[u7,.string r,.nilIface]) (by simp[results,results254,go_sem]) rfl ⟨.inr ⟨_,_,acc,rfl,by rw[HRf.o,HE.o],hown.mono hb1.size,⟨by omega,HT.o⟩,HRr.o⟩,hb1.trans (hb.mono hb1.size)⟩
def okC(f:Fl):Bool:=iK (trimS f.2.data.toList)
def clF(f:Fl):FB:=(f.1.data.toList,trimS f.2.data.toList)
def aM(p:Fl->Bool)(L:List Fl):Nat:=(L.takeWhile p).length
theorem iU(p:Fl->Bool)(L:List Fl)(k:Nat)(f:Fl)(hk:L[k]?=some f)(h:(L.take k).all p=true)(h':p f=false):aM p L=k:=by
 induction L generalizing k with
 | nil=>exact absurd hk (by simp)
 | cons g L ih=>
  unfold aM
  cases k with
  | zero=>
   simp at hk
   subst hk
   rw[aaa,h'];rfl
  | succ k=>
   simp only[List.take_succ_cons,aab,aav]at h
   rw[aaa,h.1]
   have:=ih k (by simpa using hk) h.2
   unfold aM at this
   show(L.takeWhile p).length+1=k+1
   rw[this]
theorem LK(p:Fl->Bool)(L:List Fl)(h:L.all p=true):aM p L=L.length:=by
 induction L with
 | nil=>rfl
 | cons g L ih=>
  simp only[aab,aav]at h
  have:=ih h.2
  unfold aM at this ⊢
  rw[aaa,h.1]
  show(L.takeWhile p).length+1=L.length+1
  rw[this]
theorem Ww(p:Fl->Bool)(L:List Fl)(k:Nat)(f:Fl)(hk:L[k]?=some f)(h:(L.take k).all p=true)(h':p f=true):(L.take (k+1)).all p=true:=by
 rw[bV L k f hk,List.all_append,h];simp[h']
theorem EP(x:ByteArray)(w:World)(hl:x.size<=1000000)(q:Bool)(hq:iK x.data.toList=q):
  Calls prog 274 #[.string x] w fun e w'=>e=.returned (.bool q)/\w'=w:=by
 subst hq
 exact wR x w hl
theorem xQ(W:World)(cs:Array Value)(T:TypeId)(b k:Nat)(hb:b=W.heap.size):(W.alloc (.cells cs T)).cell? ⟨b,k,none⟩=cs[k]?:=by
 subst hb
 simp
theorem Q5{t v:ByteArray}(h:t.data.toList=trimS v.data.toList):t.size<=v.size:=by
 have:=pK v.data.toList
 rw[<-h,ae,ae]at this
 exact this
theorem La(v:Value)(L:List Fl)(w:World)(hT:lW L)(hF:FL w v L):
  Calls prog 255 #[v] w fun e w'=>((∃E,aM okC L<L.length/\e=.returned (.tuple #[.slice none 0 0,E])/\Ty w' E 1 (aM okC L)) \/
   (∃v' M,aM okC L=L.length/\e=.returned (.tuple #[v',.nilIface])/\bJ w' w.heap.size v' M/\M.map fl2=L.map clF/\lW M))/\Below w.heap.size w w':=by
 obtain⟨A,cap,rfl,hcap,hcells⟩:=hF
 have HC:=Box.m hcells
 have hlen:=hT.1
 have HT:=Box.m hT
 clear hcells hT
 go_enter func255,ntmps255
 go_wp2
 go_loopw [4,9] (fun x i wr=>∃(k:Nat) (M:List Fl),k<=L.length/\i=.int .i64 k/\M.length=k/\bJ wr w.heap.size x M/\Below w.heap.size w wr/\Box ((L.take k).all okC=true)/\Box (M.map fl2=(L.take k).map clF)/\Box (∀f∈M,f.1.size<=1000000/\f.2.size<=1000000)) (fun _ i _=>L.length - (intOf i).toNat)
 case atStart=>exact⟨0,[],aau _,rfl,rfl,bJ.nil _ _,Below.refl _ _,⟨rfl⟩,⟨rfl⟩,⟨fun f hf=>absurd hf (by simp)⟩⟩
 case round=>
  obtain⟨k,M,hk,rfl,hMl,hown,hb,HA,HM,HS⟩:=hrel
  have HMl:=Box.m hMl
  clear hMl
  have hsz:=hb.size
  by_cases hlt:k<L.length
  ·obtain⟨b,off,n,v,rfl,HN,hn,hv,hbl,d0,d1⟩:=HC.o.elem HT.o hb k hlt
   clear HC HT
   go_wp2_with fail
   refine(yQ v _ hv).mono ?_
   rintro e w2 ⟨t,rfl,ht,hb2⟩
   have hts:=Q5 ht
   have HTr:=Box.m ht
   have e0:w2.cell? ⟨wr.heap.size,0,none⟩=some (.string n):=(hb2.cell (p:=⟨wr.heap.size,0,none⟩) (by simp)).trans (by simp)
   have e1:w2.cell? ⟨wr.heap.size,1,none⟩=some (.string v):=(hb2.cell (p:=⟨wr.heap.size,1,none⟩) (by simp)).trans (by simp)
   have e2:w2.frozen? ⟨wr.heap.size,1,none⟩=false:=(hb2.frozen (p:=⟨wr.heap.size,1,none⟩) (by simp)).trans (by simp)
   have hbr:Below wr.heap.size wr (w2.setCell ⟨wr.heap.size,1,none⟩ (.string t)):=((ag.alloc af _).trans (hb2.mono (by simp))).setCell af _
   have hb3:=hb.trans (hbr.mono hsz)
   have hown3:=hown.below hbr af
   have hsz3:=hb3.size
   have hsz4:w.heap.size<=w2.heap.size:=by simpa using hsz3
   clear ht hown hb2 d0 d1
   cases hq:iK t.data.toList
   ·have HE:Box (aM okC L=k):=⟨iU okC L k _ HN.o HA.o (by unfold okC;rw[<-HTr.o];exact hq)⟩
    clear HN HA HM HS HTr
    go_wp2_with (go_at_call 274;refine(EP _ _ (by omega) _ hq).mono ?_;rintro e wz ⟨rfl,rfl⟩)
    go_ret2
    exact⟨.inl ⟨_,by rw[HE.o];exact hlt,rfl,⟨w2.heap.size,rfl,(xQ _ _ _ _ 0 (by simp)).trans rfl,(xQ _ _ _ _ 1 (by simp)).trans (by rw[HE.o];rfl)⟩⟩,hb3.alloc hsz3 _⟩
   ·have HA':Box ((L.take (k+1)).all okC=true):=⟨Ww okC L k _ HN.o HA.o (by unfold okC;rw[<-HTr.o];exact hq)⟩
    have HM':Box ((M++[(n,t)]).map fl2=(L.take (k+1)).map clF):=⟨by
     rw[bV L k _ HN.o,aam,aam,HM.o]
     simp[fl2,clF,HTr.o]⟩
    have HS':Box (∀f∈M++[(n,t)],f.1.size<=1000000/\f.2.size<=1000000):=⟨fun f hf=>by
     rcases GL.1 hf with h|h
     ·exact HS.o f h
     ·obtain rfl:=VQ.1 h
      exact⟨hn,by show t.size<=_;omega⟩⟩
    have hMk:M.length+1<=1000000:=by have:=HMl.o;omega
    clear HN HA HM HS HTr
    go_wp2_with (first|(go_at_call 274;refine(EP _ _ (by omega) _ hq).mono ?_;rintro e wz ⟨rfl,rfl⟩)|(at_builtin;refine GU ((w2.setCell ⟨wr.heap.size,1,none⟩ (.string t)).alloc (.cells #[.string n,.string t] 147)) w rfl (.tmp 26) (.tmp 28) rfl w.heap.size u4 M rfl (World.ownsRow.alloc hown3 _) w2.heap.size 1 (n,t) rfl ((xQ _ _ _ _ 0 (by simp)).trans rfl) ((xQ _ _ _ _ 1 (by simp)).trans rfl) hMk (by simp;omega) (hb3.alloc hsz3 _) ?_;intro v' w6 hown6 hb6))
    go_roundw
    case rel=>exact⟨k+1,M++[(n,t)],by omega,by go_num,by rw[Ws,HMl.o];rfl,hown6,hb6,HA',HM',HS'⟩
    case measure=>simp[intOf];omega
  ·have HE:Box (aM okC L=L.length):=⟨LK okC L (by rw[<-HA.o,aac (by omega)])⟩
   have HM':Box (M.map fl2=L.map clF):=⟨by rw[HM.o,aac (by omega)]⟩
   have hMk:M.length<=100000:=by have:=HMl.o;omega
   clear HA HM HC HT
   go_wp2
   go_ret2
   exact⟨.inr ⟨_,M,HE.o,rfl,hown,HM'.o,⟨hMk,HS.o⟩⟩,hb⟩
def fM(ls:List (aa)):aa:=(ls.map fun x=>x++[13,10]).flatten
theorem uj(a b:List (aa)):fM (a++b)=fM a++fM b:=by simp[fM]
theorem Kz(x:aa):fM [x]=x++[13,10]:=by simp[fM]
def JS(q:List (aa)×aa×Bool)(w:aa):List (aa)×aa×Bool:=
 if q.2.2&&decide (76<q.2.1.length+w.length) then (q.1++[q.2.1],w,true) else (q.1,q.2.1++w,true)
def nW(n:aa)(ws:List (aa)):List (aa)×aa×Bool:=ws.foldl JS ([],n++[58,32],false)
theorem wC(n:aa)(ws:List (aa))(x:aa):nW n (ws++[x])=JS (nW n ws) x:=by unfold nW;rw[List.foldl_append];rfl
theorem JI(n:aa)(ws:List (aa)):iV n ws=(fM (nW n ws).1++(nW n ws).2.1,(nW n ws).2.1.length,(nW n ws).2.2):=by
 induction ws using yj with
 | h0=>simp[iV,OV,nW,fM]
 | h1 ws x ih=>
  rw[su,wC,ih]
  unfold Pd JS
  split
  ·simp[fM]
  ·simp
def tQ(n v:aa):List (aa):=(nW n (jC v)).1++[(nW n (jC v)).2.1]
theorem GG(n v:aa):ng n v=fM (tQ n v):=by
 unfold ng tQ
 rw[JI,uj,Kz]
 simp
def ru(z:aa):Prop:=∃k u,z=List.replicate (k+1) 32++u/\(32:UInt8)∉u
def Zm(z:aa):Prop:=(∃t,z=32::t)/\(z.length<=76\/ru z)
theorem ru.head{z:aa}(h:ru z):∃t,z=32::t:=by
 obtain⟨k,u,rfl,_⟩:=h
 exact⟨List.replicate k 32++u,by rw[List.replicate_succ];rfl⟩
theorem Gf(v:aa)(k:Nat):∀ws wd,Vy v k ws wd->k<=v.length->(∀w∈ws.tail,ru w)/\(ws≠[]->ru wd):=by
 induction k with
 | zero=>
  intro ws wd h _
  rcases h with⟨_,f,h1,_⟩|⟨h,_⟩
  ·have:ws=[]:=(congrArg Prod.fst h1).symm
   rw[this]
   exact⟨fun w hw=>absurd hw (by simp),fun h=>absurd rfl h⟩
  ·omega
 | succ k ih=>
  intro ws wd h hk
  rcases h with⟨_,f,h1,hwd⟩|⟨h,_⟩
  ·obtain⟨ws0,f0,h0⟩:∃ws0 f0,dz v k=(ws0,f0):=⟨_,_,rfl⟩
   have hf0:=Ck v k
   rw[h0]at hf0
   simp only at hf0
   have hp:Vy v k ws0 ((v.drop f0).take (k - f0)):=.inl ⟨by omega,f0,h0,rfl⟩
   obtain⟨i1,i2⟩:=ih _ _ hp (by omega)
   have hkl:k<v.length:=by omega
   have hgk:v[k]?=some v[k]:=ZX hkl
   rw[kJ v k h0]at h1
   by_cases hc:Lj v k=true
   ·rw[if_pos hc]at h1
    simp only[Prod.mk.injEq]at h1
    obtain⟨rfl,rfl⟩:=h1
    constructor
    ·intro w hw
     cases ws0 with
     | nil=>simp at hw
     | cons a ws0=>
      simp only[ZY,aad]at hw i1
      rcases GL.1 hw with h|h
      ·exact i1 w h
      ·rw[VQ.1 h]
       exact i2 (by simp)
    ·intro _
     have e:k+1 - k=0+1:=by omega
     rw[hwd,e,aan,ZW,Nat.add_zero,hgk]
     have h32:v[k]=32:=by
      unfold Lj at hc
      simp only[aav]at hc
      have:=hc.1.2
      rw[aae,hgk]at this
      simpa using this
     exact⟨0,[],by rw[h32];rfl,by simp⟩
   ·rw[if_neg hc]at h1
    simp only[Prod.mk.injEq]at h1
    obtain⟨rfl,rfl⟩:=h1
    refine⟨i1,fun hne=>?_⟩
    obtain⟨j,u,hz,hu⟩:=i2 hne
    have e:k+1 - f0=k - f0+1:=by omega
    have e2:f0+(k - f0)=k:=by omega
    have ew:wd=(v.drop f0).take (k - f0)++[v[k]]:=by
     rw[hwd,e,aan,ZW,e2,hgk];rfl
    rw[hz]at ew
    by_cases h32:v[k]=32
    ·have hu0:u=[]:=by
      rcases List.eq_nil_or_concat u with h|⟨u',c,rfl⟩
      ·exact h
      ·exfalso
       have hc32:c≠32:=fun h=>hu (by rw[h];simp)
       have hlast:((v.drop f0).take (k - f0)).getLast?=some c:=by rw[hz];simp
       have hfk:f0<k:=by
        rcases Nat.lt_or_ge f0 k with h|h
        ·exact h
        ·have:k - f0=0:=by omega
         rw[this]at hlast
         simp at hlast
       have hlen:((v.drop f0).take (k - f0)).length=k - f0:=by rw[Z6,Z0];omega
       rw[List.getLast?_eq_getElem?,hlen,Z7,if_pos (by omega),ZW]at hlast
       have e3:f0+(k - f0 - 1)=k - 1:=by omega
       rw[e3]at hlast
       apply hc
       unfold Lj
       rw[aae,aae,hgk,hlast,h32]
       have h0:decide (0<k)=true:=decide_eq_true (by omega)
       rw[h0]
       simp[hc32]
     subst hu0
     refine⟨j+1,[],?_,by simp⟩
     rw[ew,h32]
     simp[List.replicate_succ']
    ·refine⟨j,u++[v[k]],by rw[ew];simp,?_⟩
     intro hm
     rcases GL.1 hm with h|h
     ·exact hu h
     ·exact h32 (VQ.1 h).symm
  ·omega
theorem Ll(v:aa):∀w∈(jC v).tail,ru w:=by
 obtain⟨ws,f,h⟩:∃ws f,dz v v.length=(ws,f):=⟨_,_,rfl⟩
 have hp:Vy v v.length ws ((v.drop f).take (v.length - f)):=.inl ⟨aat _,f,h,rfl⟩
 obtain⟨i1,i2⟩:=Gf v v.length _ _ hp af
 unfold jC
 rw[h]
 intro w hw
 cases ws with
 | nil=>simp at hw
 | cons a ws=>
  simp only[ZY,aad]at hw i1
  rcases GL.1 hw with h|h
  ·exact i1 w h
  ·rw[VQ.1 h]
   have:=i2 (by simp)
   rw[aac (by rw[Z0];exact aat _)]at this
   exact this
def U3(n:aa)(ws ls:List (aa)):Prop:=∃a zs,ls=(n++[58,32]++a)::zs/\a++zs.flatten=ws.flatten/\∀z∈zs,Zm z
theorem M0(n:aa)(ws:List (aa)):(nW n ws).2.2=!ws.isEmpty:=by
 induction ws using yj with
 | h0=>rfl
 | h1 ws x ih=>
  rw[wC]
  unfold JS
  split<;>simp
theorem Mm(n:aa)(ws:List (aa))(h:∀w∈ws.tail,ru w):U3 n ws ((nW n ws).1++[(nW n ws).2.1]):=by
 induction ws using yj with
 | h0=>exact⟨[],[],by simp[nW],rfl,fun z hz=>absurd hz (by simp)⟩
 | h1 ws x ih=>
  have ht:∀w∈ws.tail,ru w:=fun w hw=>h w (by
   cases ws with
   | nil=>simp at hw
   | cons a ws=>simp only[ZY,aad]at hw ⊢;exact aaf _ hw)
  have hx:ws≠[]->ru x:=fun hne=>h x (by
   cases ws with
   | nil=>exact absurd rfl hne
   | cons a ws=>simp)
  obtain⟨a,zs,h1,h2,h3⟩:=ih ht
  have hfl:=M0 n ws
  rw[wC]
  generalize nW n ws=q at h1 hfl
  obtain⟨done,cur,b⟩:=q
  simp only at h1 hfl
  unfold JS
  simp only
  split
  ·rename_i hb
   simp only[aav,decide_eq_true_eq]at hb
   have hne:ws≠[]:=by
    intro e
    rw[hfl,e]at hb
    exact absurd hb.1 (by simp)
   refine⟨a,zs++[x],?_,?_,?_⟩
   ·simp only
    rw[h1];rfl
   ·simp only[ZV,Z8,aag,aah]
    rw[<-ZZ,h2]
   ·intro z hz
    rcases GL.1 hz with h|h
    ·exact h3 z h
    ·rw[VQ.1 h]
     exact⟨(hx hne).head,.inr (hx hne)⟩
  ·rename_i hb
   simp only
   cases done with
   | nil=>
    simp only[List.nil_append,List.cons.injEq]at h1 ⊢
    obtain⟨rfl,rfl⟩:=h1
    refine⟨a++x,[],by simp,?_,fun z hz=>absurd hz (by simp)⟩
    simp only[aag,aah]at h2 ⊢
    rw[ZV,<-h2];simp
   | cons d ds=>
    simp only[ZY,List.cons.injEq]at h1
    obtain⟨rfl,rfl⟩:=h1
    have hcur:=h3 cur (by simp)
    have hne:ws≠[]:=by
     intro e
     rw[e]at h2
     simp at h2
     obtain⟨⟨t,ht'⟩,_⟩:=hcur
     have:=h2.2.2
     rw[ht']at this
     simp at this
    have hb':¬76<cur.length+x.length:=by
     intro hh
     apply hb
     rw[hfl]
     have:ws.isEmpty=false:=by cases ws<;>simp_all
     rw[this]
     simp[hh]
    refine⟨a,ds++[cur++x],by simp,?_,?_⟩
    ·simp only[ZV,Z8,aag,aah]at h2 ⊢
     rw[<-h2];simp
    ·intro z hz
     rcases GL.1 hz with h|h
     ·exact h3 z (aaf _ h)
     ·rw[VQ.1 h]
      obtain⟨⟨t,ht'⟩,_⟩:=hcur
      exact⟨⟨t++x,by rw[ht'];rfl⟩,.inl (by rw[Ws];omega)⟩
theorem zJ(n v:aa):∃a zs,tQ n v=(n++[58,32]++a)::zs/\a++zs.flatten=v/\∀z∈zs,Zm z:=by
 obtain⟨a,zs,h1,h2,h3⟩:=Mm n (jC v) (Ll v)
 rw[oH]at h2
 exact⟨a,zs,h1,h2,h3⟩
theorem Sl(x t:aa)(d:UInt8)(r:aa)(h:∀c∈x,c≠d):Lib.index (x++(d::r)++t) (d::r)=(x.length:Nat):=by
 refine Lib.index_first (by simp) ?_ ?_
 ·unfold Lib.occAt
  rw[ZZ,aao]
  simp
 ·intro j hj
  unfold Lib.occAt
  have e:(x++(d::r)++t).drop j=x[j]::(x.drop (j+1)++(d::r)++t):=by
   rw[ZZ,List.drop_append_of_le_length (by omega),aal hj,ZZ]
   rfl
  rw[e]
  have hne:(d==x[j])=false:=by
   rw[beq_eq_false_iff_ne]
   exact fun e=>h x[j] (Z5 hj) e.symm
  simp[List.isPrefixOf,hne]
theorem yF(x t:aa)(d:UInt8)(r:aa)(h:∀c∈x,c≠d):Lib.cut (x++(d::r)++t) (d::r)=(x,t,true):=by
 have hi:=Sl x t d r h
 unfold Lib.cut
 rw[hi,if_pos (by omega)]
 have e:((x.length:Nat):Int).toNat=x.length:=by omega
 rw[e]
 have e1:(x++(d::r)++t).take x.length=x:=by rw[ZZ];exact List.take_left
 have e2:(x++(d::r)++t).drop (x.length+(d::r).length)=t:=by
  rw[<-Ws]
  exact aao
 rw[e1,e2]
theorem Xq(ls:List (aa))(rest:aa)(h1:∀x∈ls,x≠[])(h2:∀x∈ls,∀c∈x,c≠13):hl (fM ls++[13,10]++rest)=(ls,rest):=by
 induction ls with
 | nil=>
  have e:fM []++[13,10]++rest=[]++(13::[10])++rest:=rfl
  have hc:Lib.cut ([]++(13::[10])++rest) jd=([],rest,true):=yF [] rest 13 [10] (by simp)
  rw[e,AQ _ (by simp) (by rw[hc]),hc]
 | cons x ls ih=>
  have e:fM (x::ls)++[13,10]++rest=x++(13::[10])++(fM ls++[13,10]++rest):=by simp[fM]
  have hc:Lib.cut (x++(13::[10])++(fM ls++[13,10]++rest)) jd=(x,fM ls++[13,10]++rest,true):=yF x _ 13 [10] (h2 x aap)
  rw[e,Po _ (by simp) (by rw[hc];exact h1 x aap),hc,ih (fun y hy=>h1 y (aaq _ hy)) (fun y hy=>h2 y (aaq _ hy))]
def Dy(f:Fl):FB:=(f.1.data.toList,32::f.2.data.toList)
def jH(L:List Fl):List (aa):=(L.map fun f=>tQ f.1.data.toList f.2.data.toList).flatten
theorem EC(L:List Fl):bW L=fM (jH L):=by
 induction L with
 | nil=>rfl
 | cons f L ih=>
  have e1:bW (f::L)=ng f.1.data.toList f.2.data.toList++bW L:=rfl
  have e2:jH (f::L)=tQ f.1.data.toList f.2.data.toList++jH L:=rfl
  rw[e1,e2,GG,ih,uj]
theorem Dh{c:UInt8}(h:qa c=true):c≠13/\c≠58/\c≠32/\blk c=false:=by
 simp only[qa,aav,decide_eq_true_eq]at h
 have h13:c≠13:=fun e=>by rw[e]at h;exact absurd h.1.1 (by decide)
 have h58:c≠58:=fun e=>by rw[e]at h;exact absurd rfl h.2
 have h32:c≠32:=fun e=>by rw[e]at h;exact absurd h.1.1 (by decide)
 have h9:c≠9:=fun e=>by rw[e]at h;exact absurd h.1.1 (by decide)
 refine⟨h13,h58,h32,?_⟩
 unfold blk
 simp[h32,h9]
theorem Pn{c:UInt8}(h:sJ c=true):c≠13:=by
 intro e
 rw[e]at h
 exact absurd h (by decide)
theorem oz{f:Fl}(h:eB f=true):f.1.data.toList≠[]/\(∀c∈f.1.data.toList,qa c=true)/\(∀c∈f.2.data.toList,sJ c=true)/\trimS f.2.data.toList=f.2.data.toList/\jY f.1.data.toList=true/\iK f.2.data.toList=true:=by
 unfold eB at h
 simp only[aav]at h
 obtain⟨hn,hs⟩:=h
 have hn':=hn
 have hs':=hs
 unfold jY at hn
 unfold iK at hs
 simp only[aav,Bool.not_eq_true',decide_eq_true_eq,aar]at hn hs
 refine⟨fun e=>?_,hn.2,hs.1,hs.2,hn',hs'⟩
 rw[e]at hn
 exact absurd hn.1 (by simp)
theorem Ko(f:Fl)(h:eB f=true):∀x∈tQ f.1.data.toList f.2.data.toList,x≠[]/\∀c∈x,c≠13:=by
 obtain⟨_,hn,hs,_⟩:=oz h
 obtain⟨a,zs,h1,h2,h3⟩:=zJ f.1.data.toList f.2.data.toList
 rw[h1]
 intro x hx
 rcases aak.1 hx with rfl|hx
 ·refine⟨by simp,fun c hc=>?_⟩
  rcases GL.1 hc with hc|hc
  ·rcases GL.1 hc with hc|hc
   ·exact(Dh (hn c hc)).1
   ·have:c=58\/c=32:=by simpa using hc
    rcases this with rfl|rfl<;>decide
  ·exact Pn (hs c (by rw[<-h2];exact aaf _ hc))
 ·obtain⟨⟨t,ht⟩,_⟩:=h3 x hx
  refine⟨by rw[ht];simp,fun c hc=>Pn (hs c ?_)⟩
  rw[<-h2]
  exact List.mem_append_right _ (aas.2 ⟨x,hx,hc⟩)
theorem FP(L:List Fl)(h:L.all eB=true):∀x∈jH L,x≠[]/\∀c∈x,c≠13:=by
 intro x hx
 unfold jH at hx
 obtain⟨l,hl,hx⟩:=aas.1 hx
 obtain⟨f,hf,rfl⟩:=aaj.1 hl
 exact Ko f (aar.1 h f hf) x hx
theorem Np(f:Fl)(h:eB f=true)(more:List (aa))(n:Nat)(acc:List FB):∃m,dm (tQ f.1.data.toList f.2.data.toList++more) n acc=dm more m (acc++[Dy f]):=by
 obtain⟨hne,hn,_,_,hnm,_⟩:=oz h
 obtain⟨a,zs,h1,h2,h3⟩:=zJ f.1.data.toList f.2.data.toList
 have hfo:il (f.1.data.toList++[58,32]++a)=some (f.1.data.toList,32::a):=by
  have hc:Lib.cut (f.1.data.toList++[58,32]++a) [58]=(f.1.data.toList,32::a,true):=by
   have e:f.1.data.toList++[58,32]++a=f.1.data.toList++(58::[])++(32::a):=by simp
   rw[e]
   exact yF _ _ 58 [] fun c hc=>(Dh (hn c hc)).2.1
  exact xq hc hnm
 have hgo:o6 (f.1.data.toList++[58,32]++a)=false:=by
  cases hl:f.1.data.toList with
  | nil=>exact absurd hl hne
  | cons c l=>exact(Dh (hn c (by rw[hl];simp))).2.2.2
 have hz:∀z∈zs,o6 z=true:=fun z hz=>by
  obtain⟨⟨t,ht⟩,_⟩:=h3 z hz
  rw[ht];rfl
 refine⟨n+1+zs.length,?_⟩
 rw[h1,ZY,yg hfo (by rw[hgo];rfl),zm zs more (n+1) acc _ hz]
 have:(32::a:aa)++zs.flatten=32::f.2.data.toList:=by rw[<-h2];rfl
 rw[this];rfl
theorem Nq(L:List Fl)(h:L.all eB=true):∀(n:Nat) (acc:List FB),dm (jH L) n acc=.ok (acc++L.map Dy):=by
 induction L with
 | nil=>intro n acc;simp[jH,dm]
 | cons f L ih=>
  intro n acc
  simp only[aab,aav]at h
  have e:jH (f::L)=tQ f.1.data.toList f.2.data.toList++jH L:=rfl
  obtain⟨m,hm⟩:=Np f h.1 (jH L) n acc
  rw[e,hm,ih h.2]
  simp
theorem Qk(L:List Fl)(h:L.all eB=true)(rest:aa):dm (hl (bW L++[13,10]++rest)).1 0 []=.ok (L.map Dy)/\(hl (bW L++[13,10]++rest)).2=rest:=by
 rw[EC,Xq _ rest (fun x hx=>(FP L h x hx).1) (fun x hx=>(FP L h x hx).2)]
 exact⟨by rw[Nq L h];rfl,rfl⟩
theorem PX(f:Fl)(h:eB f=true):trimS (32::f.2.data.toList)=f.2.data.toList:=by
 obtain⟨_,_,_,ht,_⟩:=oz h
 have e:aW (32::f.2.data.toList)=aW f.2.data.toList:=rfl
 unfold trimS at ht ⊢
 rw[e,ht]
end Go.Proofs.YtkldkhdigkpniaaGreatDoor
