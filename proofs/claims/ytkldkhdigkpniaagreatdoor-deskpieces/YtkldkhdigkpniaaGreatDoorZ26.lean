import Derived.Test.YtkldkhdigkpniaaGreatDoorZ25
import Derived.Laws.CopyRow
set_option maxHeartbeats 2000000
set_option maxRecDepth 100000
open Nat renaming le_refl → GL, le_trans → VQ, mod_two_eq_zero_or_one → Ws
open List renaming take_succ_cons → Xu, length_take → ZV, drop_drop → ZW, set_cons_succ → ZX, length_append → ZY, take_of_length_le → ZZ, takeWhile_cons → Z0, length_cons → Z4, filter_cons → Z5, getElem?_eq_getElem → Z6
open Go.World renaming block_lt_of_cell? → Z7
namespace Go.Proofs.YtkldkhdigkpniaaGreatDoor
open Go.RowKit Go.Proofs.Tryz
theorem Vb{ops:Array Oper}{rest:List Oper}{o:Oper}{a:Act}{Q:Exit->Act->World->Prop}(W:World)(hgd:o.guard=none)(s x:Operand)(ho:o.op=.call { callee:=.builtin .append,args:=#[s,x],argTypes:=#[90,90] })
  (B:Nat) (v:Value) (L:List Fl) (hs:a.eval s=v) (hown:bJ W B v L) (b off c:Nat) (M:List Fl) (hx:a.eval x=.slice (some ⟨b,off,none⟩) M.length c) (h0:∀k (hk:k<M.length),W.cell? ⟨b,off+k*2,none⟩=some (.string M[k].1)/\W.cell? ⟨b,off+k*2+1,none⟩=some (.string M[k].2)) (hl:L.length+M.length<=1000000) (hB:B<=W.heap.size)
  (h:∀v' w',bJ w' B v' (L++M)->W.grownBy w' v.ownBlock->wpList prog ops Q rest (a.put o.dst v') w'):wpList prog ops Q (o::rest) a W:=by
 refine wpList_plain hgd fun _ hK=>?_
 obtain⟨i0,hi,hz0,hz1,hz2⟩:=info_parts Tryz.infoFld
 refine wp_append_own W s x 90 ho B 147 i0 (.agg #[.string ⟨#[]⟩,.string ⟨#[]⟩]) 2 32 underlying90 hi hz0 hz1 hz2 rfl (by decide) v L.length (aX L) hs hown ⟨b,off,none⟩ M.length c (aX M) hx (by rw[lw]) ?_ ?_ (by unfold maxLen;omega) (by omega) hB ?_
 ·intro j u hj
  have hjl:j<M.length*2:=by
   have:=(List.getElem?_eq_some_iff.1 hj).1
   rw[lw]at this
   exact this
  rw[Addr.add_lit]
  have hk:j / 2<M.length:=by omega
  have hg:=wG M (j / 2) hk
  have hc:=h0 (j / 2) hk
  rcases Ws j with h2|h2
  ·have e:j=j / 2*2:=by omega
   rw[e]at hj ⊢
   rw[hg.1]at hj
   rw[hc.1];exact hj
  ·have e:j=j / 2*2+1:=by omega
   rw[e]at hj ⊢
   rw[hg.2]at hj
   rw[<-Nat.add_assoc,hc.2];exact hj
 ·intro u hu
  obtain⟨f,hf,hu⟩:=List.mem_flatMap.1 hu
  have:u=.string f.1\/u=.string f.2:=by simpa using hu
  rcases this with rfl|rfl<;>rfl
 ·intro v' w' h2 h3 _
  refine hK _ _ (h v' w' ?_ h3)
  unfold bJ
  rw[ZY,pE]
  exact h2
theorem OJ(a:Addr)(n c:Nat)(w:World):Sem.run prog (binOp BinOp.eql 90 (.slice (some a) n c) (.slice none 0 0)) w=Result.ok (.bool false) w:=by kernel_rfl
theorem pI(v:Value)(L:List Fl)(w:World)(hT:lW L)(hF:FL w v L):
  Calls prog 103 #[v] w fun e w'=>∃v',e=.returned v'/\bJ w' w.heap.size v' L/\Below w.heap.size w w':=by
 obtain⟨A,cap,rfl,hcap,hcells⟩:=hF
 have hlen:=hT.1
 have HC:=Box.m hcells
 clear hcells hT
 cases A with
 | none=>
  have hL:L=[]:=by
   cases L with
   | nil=>rfl
   | cons f L=>
    obtain⟨b,off,e,_⟩:=HC.o 0 (by simp)
    cases e
  subst hL
  have hq:∀w,Sem.run prog (binOp BinOp.eql 90 (.slice none 0 cap) (.slice none 0 0)) w=Result.ok (.bool true) w:=fun w=>by kernel_rfl
  go_enter func103,ntmps103
  go_wp2
  go_ret
  exact⟨_,rfl,bJ.nil _ _,Below.refl _ _⟩
 | some a=>
  have hown0:bJ (w.alloc (.cells #[] 147)) w.heap.size (.slice (some ⟨w.heap.size,0,none⟩) 0 0) []:=⟨rfl,.inr ⟨w.heap.size,0,#[],rfl,GL _,bG w _,GL _,by decide,rfl,rfl⟩⟩
  have hb0:=aD w (.cells #[] 147)
  by_cases hL:L=[]
  ·subst hL
   have hq:=fun w=>OJ a 0 cap w
   go_enter func103,ntmps103
   go_wp2
   go_ret
   exact⟨_,rfl,hown0,hb0⟩
  ·have hq:=fun w=>OJ a L.length cap w
   have hpos:0<L.length:=List.length_pos_iff.2 hL
   obtain⟨b,off,he,_⟩:=HC.o 0 hpos
   obtain rfl:=Option.some.inj he
   have HCW:Box (∀k (hk:k<L.length),(w.alloc (.cells #[] 147)).cell? ⟨b,off+k*2,none⟩=some (.string L[k].1)/\(w.alloc (.cells #[] 147)).cell? ⟨b,off+k*2+1,none⟩=some (.string L[k].2)):=⟨fun k hk=>by
    obtain⟨b',off',he',c1,c2⟩:=HC.o k hk
    simp only[Option.some.injEq,Addr.mk.injEq,and_true]at he'
    obtain⟨rfl,rfl⟩:=he'
    exact⟨(hb0.cell (p:=⟨b,off+k*2,none⟩) (Z7 w _ c1)).trans c1,(hb0.cell (p:=⟨b,off+k*2+1,none⟩) (Z7 w _ c2)).trans c2⟩⟩
   have HO:=Box.m hown0
   clear HC hown0 hL he
   go_enter func103,ntmps103
   go_wp2_with (at_builtin;refine Vb _ rfl (.tmp 5) (.tmp 6) rfl w.heap.size _ [] rfl HO.o _ _ _ L rfl HCW.o (by simp;omega) (by simp) ?_;intro v3 w3 hown3 hg3)
   go_ret
   exact⟨_,rfl,hown3,hb0.trans (Below.grown ag hg3 (by simp) (fun k e=>Nat.le_of_eq (Option.some.inj (show some w.heap.size=some k from e))))⟩
theorem Ag(L:List Fl)(k:Nat)(hk:k<L.length)(x:ByteArray):(aX L).set (k*2) (.string x)=aX (L.set k (x,L[k].2)):=by
 induction L generalizing k with
 | nil=>exact absurd hk (by simp)
 | cons f L ih=>
  have e:∀(f:Fl) (L:List Fl),aX (f::L)=.string f.1::.string f.2::aX L:=fun _ _=>rfl
  cases k with
  | zero=>rw[e];rfl
  | succ k=>
   rw[e,show(k+1)*2=k*2+1+1 by omega,ZX,ZX,ih k (by simpa using hk),ZX,e]
   rfl
theorem zS(L:List Fl)(i:Nat):aX (L.take i)=(aX L).take (i*2):=by
 induction L generalizing i with
 | nil=>simp[aX]
 | cons f L ih=>
  have e:∀(f:Fl) (L:List Fl),aX (f::L)=.string f.1::.string f.2::aX L:=fun _ _=>rfl
  cases i with
  | zero=>simp[aX]
  | succ i=>rw[Xu,e,e,ih,show(i+1)*2=i*2+1+1 by omega,Xu,Xu]
theorem bJ.set2{w:World}{B g cap:Nat}{L:List Fl}(h:bJ w B (.slice (some ⟨g,0,none⟩) L.length cap) L)(k:Nat)(hk:k<L.length)(x y:ByteArray):bJ ((w.setCell ⟨g,k*2,none⟩ (.string x)).setCell ⟨g,k*2+1,none⟩ (.string y)) B (.slice (some ⟨g,0,none⟩) L.length cap) (L.set k (x,y)):=by
 have h':w.ownsRow B 147 2 (.slice (some ⟨g,0,none⟩) L.length cap) L.length (aX L):=h
 have h1:=(World.ownsRow.stored h' (k*2) (.string x)).1
 rw[Ag L k hk x]at h1
 have h2:=(World.ownsRow.stored h1 (k*2+1) (.string y)).1
 rw[qN (L.set k (x,L[k].2)) k (by simpa using hk) y]at h2
 unfold bJ
 rw[List.length_set]
 simpa using h2
theorem Fu(w:World)(B g n cap i:Nat)(ty:TypeId)(M:List Fl)(h:bJ w B (.slice (some ⟨g,0,none⟩) n cap) M)(hi:i<n)(hn:M.length=n):
  ∃w',(Builtin.clear_ #[90] ty #[.slice (some ⟨g,i*2,none⟩) (n - i) (cap - i)]).run prog w=.ok (.tuple #[]) w'/\bJ w' B (.slice (some ⟨g,0,none⟩) i cap) (M.take i)/\w.grownBy w' (some g):=by
 rcases h.2 with⟨h',_⟩|⟨g',cap',cur,h',hb,hg,hc1,hc2,hc3,hc4⟩
 ·cases h'
 ·simp only[Value.slice.injEq,Option.some.injEq,Addr.mk.injEq,and_true]at h'
  obtain⟨rfl,_,rfl⟩:=h'
  obtain⟨m,hm⟩:∃m,n - i=m+1:=⟨n - i - 1,by omega⟩
  have hz:(Builtin.zeroCells #[Value.string ⟨#[]⟩,Value.string ⟨#[]⟩] (n - i)).toList.length=(n - i)*2:=by simp[Builtin.zeroCells]
  have hst:=run_storeCells_at prog g (i*2) 147 (Builtin.zeroCells #[Value.string ⟨#[]⟩,Value.string ⟨#[]⟩] (n - i)).toList 0 cur w hg (by rw[hz];omega) (by
   intro v hv
   simp only[Builtin.zeroCells,Array.toList_map,List.mem_map]at hv
   obtain⟨j,_,rfl⟩:=hv
   show(#[Value.string ⟨#[]⟩,Value.string ⟨#[]⟩][j % 2]!).oneCell'=true
   rcases Ws j with h2|h2<;>rw[h2]<;>rfl)
  refine⟨w.setRow g (cur.toList.take (i*2)++(Builtin.zeroCells #[Value.string ⟨#[]⟩,Value.string ⟨#[]⟩] (n - i)).toList++cur.toList.drop (i*2+(Builtin.zeroCells #[Value.string ⟨#[]⟩,Value.string ⟨#[]⟩] (n - i)).toList.length)).toArray,?_,?_,?_⟩
  ·rw[hm]at hst ⊢
   simp only[Nat.add_zero]at hst
   have hcell:(Value.agg #[Value.string ⟨#[]⟩,Value.string ⟨#[]⟩]).cells=#[Value.string ⟨#[]⟩,Value.string ⟨#[]⟩]:=rfl
   simp[Builtin.clear_,run_underlying underlying90,zeroValue147,hcell,hst]
  ·have hml:(M.take i).length=i:=by rw[ZV];omega
   have ht:(cur.toList.take (i*2))=aX (M.take i):=by
    rw[zS,<-hc4,List.take_take]
    congr 1
    omega
   refine⟨by rw[lw],.inr ⟨g,cap,_,by rw[hml],hb,setRow_heap w g cur _ _ _ hg,by omega,hc2,?_,?_⟩⟩
   ·simp only[List.size_toArray,ZY,ZV,List.length_drop,Array.length_toList,hz]
    omega
   ·rw[hml,<-ht]
    simp only[List.append_assoc]
    rw[List.take_append_of_le_length (by rw[ZV,Array.length_toList];omega),ZZ (by rw[ZV];omega)]
  ·exact⟨rfl,rfl,rfl,by simp,fun k _ hk=>setRow_other w g k _ (fun e=>hk (by rw[e]))⟩
theorem zb(p:Fl->Bool)(L:List Fl)(h:aM p L<L.length):∃f,L[aM p L]?=some f/\p f=false/\(L.take (aM p L)).filter p=L.take (aM p L):=by
 unfold aM at h ⊢
 induction L with
 | nil=>exact absurd h (by simp)
 | cons a L ih=>
  rw[Z0]at h ⊢
  cases hp:p a with
  | false=>exact⟨a,by simp,hp,by simp⟩
  | true=>
   rw[hp]at h
   simp only[if_true,Z4]at h ⊢
   obtain⟨f,h1,h2,h3⟩:=ih (by simpa using h)
   exact⟨f,by simpa using h1,h2,by rw[Xu,Z5,if_pos hp,h3]⟩
theorem kv(p:Fl->Bool)(L:List Fl)(h:aM p L=L.length):L.filter p=L:=by
 unfold aM at h
 induction L with
 | nil=>rfl
 | cons a L ih=>
  rw[Z0]at h
  cases hp:p a with
  | false=>rw[hp]at h;simp at h
  | true=>
   rw[hp]at h
   simp only[if_true,Z4,Nat.add_right_cancel_iff]at h
   rw[Z5,if_pos hp,ih h]
theorem jV(L:List Fl)(p:Fl->Bool)(j:Nat)(f:Fl)(h:L[j]?=some f):(L.take (j+1)).filter p=(L.take j).filter p++(if p f then [f] else []):=by
 rw[bV L j f h,List.filter_append]
 cases hp:p f<;>simp[hp]
theorem pz(M:List Fl)(i:Nat)(f:Fl)(h:i<M.length):(M.set i f).take (i+1)=M.take i++[f]:=by
 rw[bV (M.set i f) i f (by rw[List.getElem?_set_self h]),List.take_set_of_le af]
theorem Lr(v:Value)(L:List Fl)(B:Nat)(w:World)(hT:lW L)(hO:bJ w B v L)(hB:3<B)(hBw:B<=w.heap.size)(hN:j6 w):
  Calls prog 136 #[v,.func (.func 244) #[] #[]] w fun e w'=>∃v',e=.returned v'/\bJ w' B v' (L.filter fun f=>!bL f)/\Below B w w':=by
 have HT:=Box.m hT
 have HO:=Box.m hO
 have HN:=Box.m hN
 have hlen:=hT.1
 obtain⟨v0,hv0⟩:∃v0,v0=v:=⟨v,rfl⟩
 rcases hO.shape with⟨hv,hL⟩|⟨g,cap,hv,hBg,hgw,hcap⟩
 ·subst hv hL
  clear hT hO hN hv0
  go_enter func136,ntmps136
  go_wp2_with fail
  refine(zW _ [] _ HT.o (FL.nil _) HN.o).mono ?_
  rintro e w1 ⟨hI,hb1⟩
  rcases hI with⟨hI,_⟩|⟨_,rfl⟩
  ·exact absurd hI (by simp)
  ·go_wp2
   go_ret
   exact⟨_,rfl,bJ.nil _ _,hb1.mono hBw⟩
 ·subst hv
  clear hT hO hN hv0
  go_enter func136,ntmps136
  go_wp2_with fail
  refine(zW _ L _ HT.o HO.o.fl HN.o).mono ?_
  rintro e w1 ⟨hI,hb1⟩
  have HO1:=Box.m (HO.o.below hb1 af)
  have hsz1:=hb1.size
  rcases hI with⟨hI,rfl⟩|⟨hI,rfl⟩
  ·obtain⟨r,hr⟩:∃r,r=aM (fun f=>!bL f) L:=⟨_,rfl⟩
   have hst:=zb (fun f=>!bL f) L (by rw[<-hr]at hI;exact hr▸hI)
   rw[<-hr]at hst hI ⊢
   obtain⟨f0,hf0,hp0,htk⟩:=hst
   have HI0:Box (L.take r=(L.take (r+1)).filter (fun f=>!bL f)):=⟨by rw[jV L _ r f0 hf0,hp0,htk];simp⟩
   clear hf0 hp0 htk hr
   go_wp2
   go_loopw [5,6] (fun c5 c6 wr=>∃(i j:Nat) (M:List Fl),j<=L.length/\c5=.int .i64 i/\c6=.int .i64 j/\i<j/\M.length<=L.length/\L.length<=M.length/\Box (bJ wr B (.slice (some ⟨g,0,none⟩) L.length cap) M)/\Box (M.take i=(L.take j).filter (fun f=>!bL f))/\Box (M.drop j=L.drop j)/\Below B w wr) (fun _ c6 _=>L.length - (intOf c6).toNat)
   case atStart=>exact⟨r,r+1,L,by omega,rfl,by go_num,by omega,GL _,GL _,HO1,HI0,⟨rfl⟩,hb1.mono hBw⟩
   case round=>
    obtain⟨i,j,M,hj,rfl,rfl,hij,hM1,hM2,HOr,HTk,HDr,hb⟩:=hrel
    have hML:M.length=L.length:=Nat.le_antisymm hM1 hM2
    have HML:=Box.m hML
    have hszr:=hb.size
    by_cases hlt:j<L.length
    ·obtain⟨f,HF⟩:∃f,Box (L[j]?=some f):=⟨_,⟨Z6 hlt⟩⟩
     have hMj:M[j]?=some f:=by
      have h1:=congrArg (fun l=>l[0]?) HDr.o
      simpa[List.getElem?_drop,HF.o]using h1
     have hjM:j<M.length:=by omega
     have hiM:i<M.length:=by omega
     have hOM:bJ wr B (.slice (some ⟨g,0,none⟩) M.length cap) M:=by rw[hML];exact HOr.o
     have hcj:=hOM.cell j hjM
     have hMe:M[j]=f:=by rw[Z6 hjM]at hMj;exact Option.some.inj hMj
     rw[hMe]at hcj
     obtain⟨d0,d1,_⟩:=hcj
     have hfs:=HT.o.2 f (List.mem_of_getElem? HF.o)
     obtain⟨fn,fv⟩:=f
     simp only at d0 d1 hfs
     have hgr:g<wr.heap.size:=Z7 wr _ d0
     have hNr:=HN.o.below hb hB
     have hba:=aD wr (rY fn fv)
     have HNa:=Box.m (hNr.below hba hNr.lt)
     have HFt:=Box.m (jV L (fun f=>!bL f) j _ HF.o)
     have HOM:=Box.m hOM
     clear hML hMj hMe hOM hNr hb1 HOr HI0 HO1
     cases hq:bL (fn,fv)
     ·go_wp2_with fail
      refine(wJ fn fv _ hfs.1 HNa.o false hq).mono ?_
      rintro e w2 ⟨rfl,hb2⟩
      obtain⟨y0,y1,yf⟩:=KD ((hb2.block wr.heap.size (by simp)).trans (bG wr (rY fn fv)))
      have hO2:=(HOM.o.below hba af).below hb2 af
      obtain⟨e0,e1,_⟩:=hO2.cell i hiM
      have hfz:∀k,w2.frozen? ⟨g,k,none⟩=false:=fun k=>World.ownsRow.frozenAt (show w2.ownsRow B 147 2 (.slice (some ⟨g,0,none⟩) M.length cap) M.length (aX M)from hO2) k
      have HO3:Box (bJ ((w2.setCell ⟨g,i*2,none⟩ (.string fn)).setCell ⟨g,i*2+1,none⟩ (.string fv)) B (.slice (some ⟨g,0,none⟩) L.length cap) (M.set i (fn,fv))):=⟨by have:=hO2.set2 i hiM fn fv;rw[HML.o]at this;exact this⟩
      have HT':Box ((M.set i (fn,fv)).take (i+1)=(L.take (j+1)).filter (fun f=>!bL f)):=⟨by rw[HFt.o,hq,pz M i _ hiM,HTk.o];rfl⟩
      have HD':Box ((M.set i (fn,fv)).drop (j+1)=L.drop (j+1)):=⟨by
       rw[List.drop_set_of_lt (by omega),<-ZW,HDr.o,ZW]⟩
      have hb2w:=(hb.trans (hba.mono (VQ hBw hszr))).trans (hb2.mono (by simp;omega))
      clear HOM HFt HTk HDr HNa hq hb2 hO2 hba hb
      go_wp2
      go_roundw
      case rel=>
       refine⟨_,_,_,_,_,_,_,_,_,_,_,_,_,_,_,_,_,_,_,_,_,_,_,⟨i+1,j+1,M.set i (fn,fv),by omega,by go_num,by go_num,by omega,by simp;omega,by simp;omega,HO3,HT',HD',?_⟩,rfl⟩
       exact Below.setCell (Below.setCell hb2w (by exact hBg) _) (by exact hBg) _
      case measure=>simp[intOf];omega
     ·go_wp2_with fail
      refine(wJ fn fv _ hfs.1 HNa.o true hq).mono ?_
      rintro e w2 ⟨rfl,hb2⟩
      have HO3:Box (bJ w2 B (.slice (some ⟨g,0,none⟩) L.length cap) M):=⟨by have:=(HOM.o.below hba af).below hb2 af;rw[HML.o]at this;exact this⟩
      have HT':Box (M.take i=(L.take (j+1)).filter (fun f=>!bL f)):=⟨by rw[HFt.o,hq,HTk.o];simp⟩
      have HD':Box (M.drop (j+1)=L.drop (j+1)):=⟨by rw[<-ZW,HDr.o,ZW]⟩
      have hb2w:=(hb.trans (hba.mono (VQ hBw hszr))).trans (hb2.mono (by simp;omega))
      clear HOM HFt HTk HDr HNa hq hb2 hba hb
      go_wp2
      go_roundw
      case rel=>exact⟨_,_,_,_,_,_,_,_,_,_,_,_,_,_,_,_,_,_,_,_,_,_,_,⟨i,j+1,M,by omega,by go_num,by go_num,by omega,by omega,by omega,HO3,HT',HD',hb2w⟩,rfl⟩
      case measure=>simp[intOf];omega
    ·have HE:Box (M.take i=L.filter (fun f=>!bL f)):=⟨by rw[HTk.o,ZZ (by omega)]⟩
     clear HTk HDr HI0 HO1 hML
     obtain⟨w3,hr3,hown3,hg3⟩:=Fu wr B g L.length cap i 0 M HOr.o (by omega) HML.o
     go_wp2
     go_ret
     exact⟨_,rfl,by rw[<-HE.o];exact hown3,hb.grown hg3 (VQ hBw hszr) (fun k e=>by cases e;exact hBg)⟩
  ·have HFI:=Box.m (kv (fun f=>!bL f) L hI)
   clear hI
   go_wp2
   go_ret
   exact⟨_,rfl,by rw[HFI.o];exact HO1.o,hb1.mono hBw⟩
end Go.Proofs.YtkldkhdigkpniaaGreatDoor
