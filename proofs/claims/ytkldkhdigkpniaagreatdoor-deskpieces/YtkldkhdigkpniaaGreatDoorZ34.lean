import Derived.Test.YtkldkhdigkpniaaGreatDoorZ27
import Derived.Test.YtkldkhdigkpniaaGreatDoorZ30
set_option maxHeartbeats 2000000
set_option maxRecDepth 100000
open ByteArray renaming data_append → GL, size_append → VQ
open Array renaming toList_append → Ws, length_toList → Xu
open List renaming drop_drop → ZV, take_of_length_le → ZW, all_cons → ZX, getElem?_eq_getElem → ZY, all_append → ZZ, all_nil → Z0, length_take → Z4, length_append → Z5, length_filter_le → Z6, map_cons → Z7, append_assoc → Z8, getElem?_drop → Z9, mem_of_getElem? → aaa, drop_set_of_lt → aab, length_set → aac, mem_map → aad, map_append → aae, filter_map → aaf, length_cons → aag, all_eq_true → aah, mem_filter → aai
open Nat renaming le_trans → aaj, le_refl → aak, zero_le → aal, le_antisymm → aam
open Bool renaming and_eq_true → aan
namespace Go.Proofs.YtkldkhdigkpniaaGreatDoor
open Go.RowKit Go.Proofs.Tryz
theorem yC(n:Nat)(m:ByteArray)(w:World)(hn:n<=1000000000)(hm:m.size<=1000000)(ht:Tab w):
  Calls prog 72 #[.int .i64 n,.string m] w fun e w'=>∃t:ByteArray,e=.returned (.string t)/\t.data.toList=EK++(Lib.decDigits n++m.data.toList)/\t.size<=m.size+14/\Below w.heap.size w w':=by
 have HT:=Box.m ht
 clear ht
 go_enter func72,ntmps72
 go_wp2_with fail
 refine(lF n _ hn HT.o).mono ?_
 rintro e w1 ⟨rfl,hb1⟩
 have hdl:(Lib.decDigits n).length<=10:=by
  rw[Lib.decDigits_length]
  exact fI 9 n (by omega)
 obtain⟨D,HD⟩:∃D:ByteArray,Box (D=⟨(Lib.decDigits n).toArray⟩):=⟨_,⟨rfl⟩⟩
 rw[<-HD.o]
 have HDl:Box (D.data.toList=Lib.decDigits n):=⟨by rw[HD.o]⟩
 have hds:D.size<=10:=by rw[<-ae,HDl.o];exact hdl
 clear HD hdl
 go_wp2
 go_ret
 refine⟨_,rfl,?_,?_,hb1⟩
 ·rw[GL,Ws,GL,Ws,HDl.o,Z8];rfl
 ·rw[VQ,VQ];show 4+D.size+m.size<=_;omega
theorem zu(n v s:ByteArray)(w:World)(hn:n.size<=1000000)(hs:s.size<=1000000):
  Calls prog 133 #[.agg #[.string n,.string v],.string s] w fun e w'=>e=.returned (.bool (decide (ah n.data.toList=ah s.data.toList)))/\Below w.heap.size w w':=by
 have hbA:Below w.heap.size w (w.alloc (.cells #[.string n,.string v] 147)):=ag.alloc af _
 obtain⟨r,HR⟩:∃r,Box (decide (ah n.data.toList=ah s.data.toList)=r):=⟨_,⟨rfl⟩⟩
 rw[HR.o]
 go_enter func133,ntmps133
 go_wp2_with fail
 refine(iB n _ (by omega)).mono ?_
 rintro e w1 ⟨t,rfl,ht,hb1⟩
 have hb01:=hbA.trans (hb1.mono hbA.size)
 go_wp2_with fail
 refine(iB s _ (by omega)).mono ?_
 rintro e w2 ⟨u,rfl,hu,hb2⟩
 have hb02:=hb01.trans (hb2.mono hb01.size)
 have HQ:Box (r=(t.toList==u.toList)):=⟨by rw[<-HR.o,<-ht,<-hu,<-H8]⟩
 clear ht hu HR
 go_wp2
 go_ret
 exact⟨by rw[HQ.o];rfl,hb02⟩
theorem TP(n v:ByteArray)(w:World)(q:Bool)(hn:n.size<=1000000)(hq:decide (ah n.data.toList=ciN)=q):
  Calls prog 137 #[.agg #[.string n,.string v]] w fun e w'=>e=.returned (.bool q)/\Below w.heap.size w w':=by
 rw[<-hq,<-BZ]
 have hb0:=aD w (rY n v)
 clear hq
 go_enter func137,ntmps137
 go_wp2_with fail
 refine(zu n v QS _ hn (by decide)).mono ?_
 rintro e w1 ⟨rfl,hb1⟩
 go_wp2
 go_ret
 exact⟨rfl,hb0.trans (hb1.mono hb0.size)⟩
theorem Vw(n v:ByteArray)(w:World)(q:Bool)(hn:n.size<=1000000)(hq:decide (ah n.data.toList=ctN)=q):
  Calls prog 132 #[.agg #[.string n,.string v]] w fun e w'=>e=.returned (.bool q)/\Below w.heap.size w w':=by
 rw[<-hq,<-CW]
 have hb0:=aD w (rY n v)
 clear hq
 go_enter func132,ntmps132
 go_wp2_with fail
 refine(zu n v Zc _ hn (by decide)).mono ?_
 rintro e w1 ⟨rfl,hb1⟩
 go_wp2
 go_ret
 exact⟨rfl,hb0.trans (hb1.mono hb0.size)⟩
theorem TH(n v:ByteArray)(w:World)(q:Bool)(_:n.size<=1000000)(hq:decide (n.data.toList=stN)=q):
  Calls prog 129 #[.agg #[.string n,.string v]] w fun e w'=>e=.returned (.bool q)/\Below w.heap.size w w':=by
 have hb0:=aD w (WX n v)
 have HQ:Box ((n.toList==[115,116,97,114,116])=q):=⟨by
  rw[<-hq,ByteArray.toList_eq]
  by_cases h:n.data.toList=stN
  ·rw[decide_eq_true h,h];rfl
  ·rw[decide_eq_false h];exact beq_eq_false_iff_ne.2 h⟩
 clear hq
 go_enter func129,ntmps129
 go_wp2
 go_ret
 exact⟨by rw[<-HQ.o];rfl,hb0⟩
theorem Ff(v:Value)(L:List Fl)(w:World)(hT:lW L)(hF:FL w v L)(p:Fl->Bool)(hc:∀(n v:ByteArray) (w1:World) (q:Bool),n.size<=1000000->p (n,v)=q->Calls prog 137 #[.agg #[.string n,.string v]] w1 fun e w2=>e=.returned (.bool q)/\Below w1.heap.size w1 w2):
  Calls prog 131 #[v,.func (.func 137) #[] #[]] w fun e w'=>wV (aM (fun f=>!p f) L) L.length e/\Below w.heap.size w w':=by
 obtain⟨A,cap,rfl,hcap,hcells⟩:=hF
 have HC:=Box.m hcells
 have hlen:=hT.1
 have HT:=Box.m hT
 have HN:=Box.m hc
 obtain⟨R,HR⟩:∃R,Box (R=aM (fun f=>!p f) L):=⟨_,⟨rfl⟩⟩
 rw[<-HR.o]
 clear hcells hT hc
 go_enter func131,ntmps131
 go_wp2
 go_loopw [8] (fun i wr=>∃k:Nat,k<=L.length/\i=.int .i64 k/\Below w.heap.size w wr/\Box ((L.take k).all (fun f=>!p f)=true)) (fun i _=>L.length - (intOf i).toNat)
 case atStart=>exact⟨0,aal _,rfl,Below.refl _ _,⟨by simp⟩⟩
 case round=>
  obtain⟨k,hk,rfl,hb,HA⟩:=hrel
  by_cases hlt:k<L.length
  ·obtain⟨b,off,n,v,rfl,HN2,hn,hv,hbl,d0,d1⟩:=HC.o.elem HT.o hb k hlt
   have hcl:Calls prog 137 #[.agg #[.string n,.string v]] wr fun e w'=>e=.returned (.bool (p (n,v)))/\Below wr.heap.size wr w':=HN.o n v wr _ hn rfl
   have HCL:=Box.m hcl
   cases hq:p (n,v)
   ·have HA':Box ((L.take (k+1)).all (fun f=>!p f)=true):=⟨by
     rw[bV L k _ HN2.o,ZZ,HA.o]
     simp only[ZX,Z0,hq];rfl⟩
    rw[hq]at HCL
    clear HC HT HA HN2 hq hcl
    go_wp2_with fail
    refine HCL.o.mono ?_
    rintro e w1 ⟨rfl,hb1⟩
    clear HCL
    go_wp2
    go_roundw
    case rel=>exact⟨k+1,by omega,by go_num,hb.trans (hb1.mono hb.size),HA'⟩
    case measure=>simp[intOf];omega
   ·have HE:Box (R=k):=⟨by rw[HR.o];exact iU _ L k _ HN2.o HA.o (by simp only[hq];rfl)⟩
    rw[hq]at HCL
    clear HC HT HA HN2 hq hcl
    go_wp2_with fail
    refine HCL.o.mono ?_
    rintro e w1 ⟨rfl,hb1⟩
    clear HCL
    go_wp2
    go_ret
    exact⟨by rw[HE.o];exact .inl ⟨hlt,rfl⟩,hb.trans (hb1.mono hb.size)⟩
  ·have HE:Box (R=L.length):=⟨by
    have h1:=HA.o
    rw[ZW (by omega)]at h1
    rw[HR.o];exact ib _ L h1⟩
   clear HC HT HA
   go_wp2
   go_ret
   exact⟨by rw[HE.o];exact .inr ⟨rfl,rfl⟩,hb⟩
theorem Qp(v:Value)(L:List Fl)(w:World)(hT:lW L)(hF:FL w v L)(p:Fl->Bool)(hc:∀(n v:ByteArray) (w1:World) (q:Bool),n.size<=1000000->p (n,v)=q->Calls prog 132 #[.agg #[.string n,.string v]] w1 fun e w2=>e=.returned (.bool q)/\Below w1.heap.size w1 w2):
  Calls prog 131 #[v,.func (.func 132) #[] #[]] w fun e w'=>wV (aM (fun f=>!p f) L) L.length e/\Below w.heap.size w w':=by
 obtain⟨A,cap,rfl,hcap,hcells⟩:=hF
 have HC:=Box.m hcells
 have hlen:=hT.1
 have HT:=Box.m hT
 have HN:=Box.m hc
 obtain⟨R,HR⟩:∃R,Box (R=aM (fun f=>!p f) L):=⟨_,⟨rfl⟩⟩
 rw[<-HR.o]
 clear hcells hT hc
 go_enter func131,ntmps131
 go_wp2
 go_loopw [8] (fun i wr=>∃k:Nat,k<=L.length/\i=.int .i64 k/\Below w.heap.size w wr/\Box ((L.take k).all (fun f=>!p f)=true)) (fun i _=>L.length - (intOf i).toNat)
 case atStart=>exact⟨0,aal _,rfl,Below.refl _ _,⟨by simp⟩⟩
 case round=>
  obtain⟨k,hk,rfl,hb,HA⟩:=hrel
  by_cases hlt:k<L.length
  ·obtain⟨b,off,n,v,rfl,HN2,hn,hv,hbl,d0,d1⟩:=HC.o.elem HT.o hb k hlt
   have hcl:Calls prog 132 #[.agg #[.string n,.string v]] wr fun e w'=>e=.returned (.bool (p (n,v)))/\Below wr.heap.size wr w':=HN.o n v wr _ hn rfl
   have HCL:=Box.m hcl
   cases hq:p (n,v)
   ·have HA':Box ((L.take (k+1)).all (fun f=>!p f)=true):=⟨by
     rw[bV L k _ HN2.o,ZZ,HA.o]
     simp only[ZX,Z0,hq];rfl⟩
    rw[hq]at HCL
    clear HC HT HA HN2 hq hcl
    go_wp2_with fail
    refine HCL.o.mono ?_
    rintro e w1 ⟨rfl,hb1⟩
    clear HCL
    go_wp2
    go_roundw
    case rel=>exact⟨k+1,by omega,by go_num,hb.trans (hb1.mono hb.size),HA'⟩
    case measure=>simp[intOf];omega
   ·have HE:Box (R=k):=⟨by rw[HR.o];exact iU _ L k _ HN2.o HA.o (by simp only[hq];rfl)⟩
    rw[hq]at HCL
    clear HC HT HA HN2 hq hcl
    go_wp2_with fail
    refine HCL.o.mono ?_
    rintro e w1 ⟨rfl,hb1⟩
    clear HCL
    go_wp2
    go_ret
    exact⟨by rw[HE.o];exact .inl ⟨hlt,rfl⟩,hb.trans (hb1.mono hb.size)⟩
  ·have HE:Box (R=L.length):=⟨by
    have h1:=HA.o
    rw[ZW (by omega)]at h1
    rw[HR.o];exact ib _ L h1⟩
   clear HC HT HA
   go_wp2
   go_ret
   exact⟨by rw[HE.o];exact .inr ⟨rfl,rfl⟩,hb⟩
theorem FD(v:Value)(L:List Fl)(w:World)(hT:lW L)(hF:FL w v L)(p:Fl->Bool)(hc:∀(n v:ByteArray) (w1:World) (q:Bool),n.size<=1000000->p (n,v)=q->Calls prog 129 #[.agg #[.string n,.string v]] w1 fun e w2=>e=.returned (.bool q)/\Below w1.heap.size w1 w2):
  Calls prog 194 #[v,.func (.func 129) #[] #[]] w fun e w'=>wV (aM (fun f=>!p f) L) L.length e/\Below w.heap.size w w':=by
 obtain⟨A,cap,rfl,hcap,hcells⟩:=hF
 have HC:=Box.m hcells
 have hlen:=hT.1
 have HT:=Box.m hT
 have HN:=Box.m hc
 obtain⟨R,HR⟩:∃R,Box (R=aM (fun f=>!p f) L):=⟨_,⟨rfl⟩⟩
 rw[<-HR.o]
 clear hcells hT hc
 go_enter func194,ntmps194
 go_wp2
 go_loopw [8] (fun i wr=>∃k:Nat,k<=L.length/\i=.int .i64 k/\Below w.heap.size w wr/\Box ((L.take k).all (fun f=>!p f)=true)) (fun i _=>L.length - (intOf i).toNat)
 case atStart=>exact⟨0,aal _,rfl,Below.refl _ _,⟨by simp⟩⟩
 case round=>
  obtain⟨k,hk,rfl,hb,HA⟩:=hrel
  by_cases hlt:k<L.length
  ·obtain⟨b,off,n,v,rfl,HN2,hn,hv,hbl,d0,d1⟩:=HC.o.elem HT.o hb k hlt
   have hcl:Calls prog 129 #[.agg #[.string n,.string v]] wr fun e w'=>e=.returned (.bool (p (n,v)))/\Below wr.heap.size wr w':=HN.o n v wr _ hn rfl
   have HCL:=Box.m hcl
   cases hq:p (n,v)
   ·have HA':Box ((L.take (k+1)).all (fun f=>!p f)=true):=⟨by
     rw[bV L k _ HN2.o,ZZ,HA.o]
     simp only[ZX,Z0,hq];rfl⟩
    rw[hq]at HCL
    clear HC HT HA HN2 hq hcl
    go_wp2_with fail
    refine HCL.o.mono ?_
    rintro e w1 ⟨rfl,hb1⟩
    clear HCL
    go_wp2
    go_roundw
    case rel=>exact⟨k+1,by omega,by go_num,hb.trans (hb1.mono hb.size),HA'⟩
    case measure=>simp[intOf];omega
   ·have HE:Box (R=k):=⟨by rw[HR.o];exact iU _ L k _ HN2.o HA.o (by simp only[hq];rfl)⟩
    rw[hq]at HCL
    clear HC HT HA HN2 hq hcl
    go_wp2_with fail
    refine HCL.o.mono ?_
    rintro e w1 ⟨rfl,hb1⟩
    clear HCL
    go_wp2
    go_ret
    exact⟨by rw[HE.o];exact .inl ⟨hlt,rfl⟩,hb.trans (hb1.mono hb.size)⟩
  ·have HE:Box (R=L.length):=⟨by
    have h1:=HA.o
    rw[ZW (by omega)]at h1
    rw[HR.o];exact ib _ L h1⟩
   clear HC HT HA
   go_wp2
   go_ret
   exact⟨by rw[HE.o];exact .inr ⟨rfl,rfl⟩,hb⟩
theorem Qr(v:Value)(L:List Fl)(B:Nat)(w:World)(hT:lW L)(hO:bJ w B v L)(hBw:B<=w.heap.size)(p:Fl->Bool)(hc:∀(n v:ByteArray) (w1:World) (q:Bool),n.size<=1000000->p (n,v)=q->Calls prog 137 #[.agg #[.string n,.string v]] w1 fun e w2=>e=.returned (.bool q)/\Below w1.heap.size w1 w2):
  Calls prog 136 #[v,.func (.func 137) #[] #[]] w fun e w'=>∃v',e=.returned v'/\bJ w' B v' (L.filter fun f=>!p f)/\Below B w w':=by
 have HT:=Box.m hT
 have HO:=Box.m hO
 have HN:=Box.m hc
 have hlen:=hT.1
 obtain⟨v0,hv0⟩:∃v0,v0=v:=⟨v,rfl⟩
 rcases hO.shape with⟨hv,hL⟩|⟨g,cap,hv,hBg,hgw,hcap⟩
 ·subst hv hL
  clear hT hO hc hv0
  go_enter func136,ntmps136
  go_wp2_with fail
  refine(Ff _ [] _ HT.o (FL.nil _) p HN.o).mono ?_
  rintro e w1 ⟨hI,hb1⟩
  rcases hI with⟨hI,_⟩|⟨_,rfl⟩
  ·exact absurd hI (by simp)
  ·go_wp2
   go_ret
   exact⟨_,rfl,bJ.nil _ _,hb1.mono hBw⟩
 ·subst hv
  clear hT hO hc hv0
  go_enter func136,ntmps136
  go_wp2_with fail
  refine(Ff _ L _ HT.o HO.o.fl p HN.o).mono ?_
  rintro e w1 ⟨hI,hb1⟩
  have HO1:=Box.m (HO.o.below hb1 af)
  have hsz1:=hb1.size
  rcases hI with⟨hI,rfl⟩|⟨hI,rfl⟩
  ·obtain⟨r,hr⟩:∃r,r=aM (fun f=>!p f) L:=⟨_,rfl⟩
   have hst:=zb (fun f=>!p f) L (by rw[<-hr]at hI;exact hr▸hI)
   rw[<-hr]at hst hI ⊢
   obtain⟨f0,hf0,hp0,htk⟩:=hst
   have HI0:Box (L.take r=(L.take (r+1)).filter (fun f=>!p f)):=⟨by rw[jV L _ r f0 hf0,hp0,htk];simp⟩
   clear hf0 hp0 htk hr
   go_wp2
   go_loopw [5,6] (fun c5 c6 wr=>∃(i j:Nat) (M:List Fl),j<=L.length/\c5=.int .i64 i/\c6=.int .i64 j/\i<j/\M.length<=L.length/\L.length<=M.length/\Box (bJ wr B (.slice (some ⟨g,0,none⟩) L.length cap) M)/\Box (M.take i=(L.take j).filter (fun f=>!p f))/\Box (M.drop j=L.drop j)/\Below B w wr) (fun _ c6 _=>L.length - (intOf c6).toNat)
   case atStart=>exact⟨r,r+1,L,by omega,rfl,by go_num,by omega,aak _,aak _,HO1,HI0,⟨rfl⟩,hb1.mono hBw⟩
   case round=>
    obtain⟨i,j,M,hj,rfl,rfl,hij,hM1,hM2,HOr,HTk,HDr,hb⟩:=hrel
    have hML:M.length=L.length:=aam hM1 hM2
    have HML:=Box.m hML
    have hszr:=hb.size
    by_cases hlt:j<L.length
    ·obtain⟨f,HF⟩:∃f,Box (L[j]?=some f):=⟨_,⟨ZY hlt⟩⟩
     have hMj:M[j]?=some f:=by
      have h1:=congrArg (fun l=>l[0]?) HDr.o
      simpa[Z9,HF.o]using h1
     have hjM:j<M.length:=by omega
     have hiM:i<M.length:=by omega
     have hOM:bJ wr B (.slice (some ⟨g,0,none⟩) M.length cap) M:=by rw[hML];exact HOr.o
     have hcj:=hOM.cell j hjM
     have hMe:M[j]=f:=by rw[ZY hjM]at hMj;exact Option.some.inj hMj
     rw[hMe]at hcj
     obtain⟨d0,d1,_⟩:=hcj
     have hfs:=HT.o.2 f (aaa HF.o)
     obtain⟨fn,fv⟩:=f
     simp only at d0 d1 hfs
     have hgr:g<wr.heap.size:=World.block_lt_of_cell? wr _ d0
     have hba:=aD wr (rY fn fv)
     have HFt:=Box.m (jV L (fun f=>!p f) j _ HF.o)
     have HOM:=Box.m hOM
     clear hML hMj hMe hOM hb1 HOr HI0 HO1
     cases hq:p (fn,fv)
     ·go_wp2_with fail
      refine(HN.o fn fv _ false hfs.1 hq).mono ?_
      rintro e w2 ⟨rfl,hb2⟩
      obtain⟨y0,y1,yf⟩:=KD ((hb2.block wr.heap.size (by simp)).trans (bG wr (rY fn fv)))
      have hO2:=(HOM.o.below hba af).below hb2 af
      obtain⟨e0,e1,_⟩:=hO2.cell i hiM
      have hfz:∀k,w2.frozen? ⟨g,k,none⟩=false:=fun k=>World.ownsRow.frozenAt (show w2.ownsRow B 147 2 (.slice (some ⟨g,0,none⟩) M.length cap) M.length (aX M)from hO2) k
      have HO3:Box (bJ ((w2.setCell ⟨g,i*2,none⟩ (.string fn)).setCell ⟨g,i*2+1,none⟩ (.string fv)) B (.slice (some ⟨g,0,none⟩) L.length cap) (M.set i (fn,fv))):=⟨by have:=hO2.set2 i hiM fn fv;rw[HML.o]at this;exact this⟩
      have HT':Box ((M.set i (fn,fv)).take (i+1)=(L.take (j+1)).filter (fun f=>!p f)):=⟨by rw[HFt.o,hq,pz M i _ hiM,HTk.o];rfl⟩
      have HD':Box ((M.set i (fn,fv)).drop (j+1)=L.drop (j+1)):=⟨by
       rw[aab (by omega),<-ZV,HDr.o,ZV]⟩
      have hb2w:=(hb.trans (hba.mono (aaj hBw hszr))).trans (hb2.mono (by simp;omega))
      clear HOM HFt HTk HDr  hq hb2 hO2 hba hb
      go_wp2
      go_roundw
      case rel=>
       refine⟨_,_,_,_,_,_,_,_,_,_,_,_,_,_,_,_,_,_,_,_,_,_,_,⟨i+1,j+1,M.set i (fn,fv),by omega,by go_num,by go_num,by omega,by simp;omega,by simp;omega,HO3,HT',HD',?_⟩,rfl⟩
       exact Below.setCell (Below.setCell hb2w (by exact hBg) _) (by exact hBg) _
      case measure=>simp[intOf];omega
     ·go_wp2_with fail
      refine(HN.o fn fv _ true hfs.1 hq).mono ?_
      rintro e w2 ⟨rfl,hb2⟩
      have HO3:Box (bJ w2 B (.slice (some ⟨g,0,none⟩) L.length cap) M):=⟨by have:=(HOM.o.below hba af).below hb2 af;rw[HML.o]at this;exact this⟩
      have HT':Box (M.take i=(L.take (j+1)).filter (fun f=>!p f)):=⟨by rw[HFt.o,hq,HTk.o];simp⟩
      have HD':Box (M.drop (j+1)=L.drop (j+1)):=⟨by rw[<-ZV,HDr.o,ZV]⟩
      have hb2w:=(hb.trans (hba.mono (aaj hBw hszr))).trans (hb2.mono (by simp;omega))
      clear HOM HFt HTk HDr  hq hb2 hba hb
      go_wp2
      go_roundw
      case rel=>exact⟨_,_,_,_,_,_,_,_,_,_,_,_,_,_,_,_,_,_,_,_,_,_,_,⟨i,j+1,M,by omega,by go_num,by go_num,by omega,by omega,by omega,HO3,HT',HD',hb2w⟩,rfl⟩
      case measure=>simp[intOf];omega
    ·have HE:Box (M.take i=L.filter (fun f=>!p f)):=⟨by rw[HTk.o,ZW (by omega)]⟩
     clear HTk HDr HI0 HO1 hML
     obtain⟨w3,hr3,hown3,hg3⟩:=Fu wr B g L.length cap i 0 M HOr.o (by omega) HML.o
     go_wp2
     go_ret
     exact⟨_,rfl,by rw[<-HE.o];exact hown3,hb.grown hg3 (aaj hBw hszr) (fun k e=>by cases e;exact hBg)⟩
  ·have HFI:=Box.m (kv (fun f=>!p f) L hI)
   clear hI
   go_wp2
   go_ret
   exact⟨_,rfl,by rw[HFI.o];exact HO1.o,hb1.mono hBw⟩
theorem gu.set2{w:World}{B g cap:Nat}{L:List Fl}(h:gu w B (.slice (some ⟨g,0,none⟩) L.length cap) L)(k:Nat)(hk:k<L.length)(x y:ByteArray):gu ((w.setCell ⟨g,k*2,none⟩ (.string x)).setCell ⟨g,k*2+1,none⟩ (.string y)) B (.slice (some ⟨g,0,none⟩) L.length cap) (L.set k (x,y)):=by
 have h':w.ownsRow B 125 2 (.slice (some ⟨g,0,none⟩) L.length cap) L.length (aX L):=h
 have h1:=(World.ownsRow.stored h' (k*2) (.string x)).1
 rw[Ag L k hk x]at h1
 have h2:=(World.ownsRow.stored h1 (k*2+1) (.string y)).1
 rw[qN (L.set k (x,L[k].2)) k (by simpa using hk) y]at h2
 unfold gu
 rw[aac]
 simpa using h2
theorem Nj(w:World)(B g n cap i:Nat)(ty:TypeId)(M:List Fl)(h:gu w B (.slice (some ⟨g,0,none⟩) n cap) M)(hi:i<n)(hn:M.length=n):
  ∃w',(Builtin.clear_ #[71] ty #[.slice (some ⟨g,i*2,none⟩) (n - i) (cap - i)]).run prog w=.ok (.tuple #[]) w'/\gu w' B (.slice (some ⟨g,0,none⟩) i cap) (M.take i)/\w.grownBy w' (some g):=by
 rcases h.2 with⟨h',_⟩|⟨g',cap',cur,h',hb,hg,hc1,hc2,hc3,hc4⟩
 ·cases h'
 ·simp only[Value.slice.injEq,Option.some.injEq,Addr.mk.injEq,and_true]at h'
  obtain⟨rfl,_,rfl⟩:=h'
  obtain⟨m,hm⟩:∃m,n - i=m+1:=⟨n - i - 1,by omega⟩
  have hz:(Builtin.zeroCells #[Value.string ⟨#[]⟩,Value.string ⟨#[]⟩] (n - i)).toList.length=(n - i)*2:=by simp[Builtin.zeroCells]
  have hst:=run_storeCells_at prog g (i*2) 125 (Builtin.zeroCells #[Value.string ⟨#[]⟩,Value.string ⟨#[]⟩] (n - i)).toList 0 cur w hg (by rw[hz];omega) (by
   intro v hv
   simp only[Builtin.zeroCells,Array.toList_map,aad]at hv
   obtain⟨j,_,rfl⟩:=hv
   show(#[Value.string ⟨#[]⟩,Value.string ⟨#[]⟩][j % 2]!).oneCell'=true
   rcases Nat.mod_two_eq_zero_or_one j with h2|h2<;>rw[h2]<;>rfl)
  refine⟨w.setRow g (cur.toList.take (i*2)++(Builtin.zeroCells #[Value.string ⟨#[]⟩,Value.string ⟨#[]⟩] (n - i)).toList++cur.toList.drop (i*2+(Builtin.zeroCells #[Value.string ⟨#[]⟩,Value.string ⟨#[]⟩] (n - i)).toList.length)).toArray,?_,?_,?_⟩
  ·rw[hm]at hst ⊢
   simp only[Nat.add_zero]at hst
   have hcell:(Value.agg #[Value.string ⟨#[]⟩,Value.string ⟨#[]⟩]).cells=#[Value.string ⟨#[]⟩,Value.string ⟨#[]⟩]:=rfl
   simp[Builtin.clear_,run_underlying underlying71,zeroValue125,hcell,hst]
  ·have hml:(M.take i).length=i:=by rw[Z4];omega
   have ht:(cur.toList.take (i*2))=aX (M.take i):=by
    rw[zS,<-hc4,List.take_take]
    congr 1
    omega
   refine⟨by rw[lw],.inr ⟨g,cap,_,by rw[hml],hb,setRow_heap w g cur _ _ _ hg,by omega,hc2,?_,?_⟩⟩
   ·simp only[List.size_toArray,Z5,Z4,List.length_drop,Xu,hz]
    omega
   ·rw[hml,<-ht]
    simp only[Z8]
    rw[List.take_append_of_le_length (by rw[Z4,Xu];omega),ZW (by rw[Z4];omega)]
  ·exact⟨rfl,rfl,rfl,by simp,fun k _ hk=>setRow_other w g k _ (fun e=>hk (by rw[e]))⟩
theorem Qd(v:Value)(L:List Fl)(B:Nat)(w:World)(hT:lW L)(hO:gu w B v L)(hBw:B<=w.heap.size)(p:Fl->Bool)(hc:∀(n v:ByteArray) (w1:World) (q:Bool),n.size<=1000000->p (n,v)=q->Calls prog 129 #[.agg #[.string n,.string v]] w1 fun e w2=>e=.returned (.bool q)/\Below w1.heap.size w1 w2):
  Calls prog 128 #[v,.func (.func 129) #[] #[]] w fun e w'=>∃v',e=.returned v'/\gu w' B v' (L.filter fun f=>!p f)/\Below B w w':=by
 have HT:=Box.m hT
 have HO:=Box.m hO
 have HN:=Box.m hc
 have hlen:=hT.1
 obtain⟨v0,hv0⟩:∃v0,v0=v:=⟨v,rfl⟩
 rcases hO.shape with⟨hv,hL⟩|⟨g,cap,hv,hBg,hgw,hcap⟩
 ·subst hv hL
  clear hT hO hc hv0
  go_enter func128,ntmps128
  go_wp2_with fail
  refine(FD _ [] _ HT.o (FL.nil _) p HN.o).mono ?_
  rintro e w1 ⟨hI,hb1⟩
  rcases hI with⟨hI,_⟩|⟨_,rfl⟩
  ·exact absurd hI (by simp)
  ·go_wp2
   go_ret
   exact⟨_,rfl,gu.nil _ _,hb1.mono hBw⟩
 ·subst hv
  clear hT hO hc hv0
  go_enter func128,ntmps128
  go_wp2_with fail
  refine(FD _ L _ HT.o HO.o.fl p HN.o).mono ?_
  rintro e w1 ⟨hI,hb1⟩
  have HO1:=Box.m (HO.o.below hb1 af)
  have hsz1:=hb1.size
  rcases hI with⟨hI,rfl⟩|⟨hI,rfl⟩
  ·obtain⟨r,hr⟩:∃r,r=aM (fun f=>!p f) L:=⟨_,rfl⟩
   have hst:=zb (fun f=>!p f) L (by rw[<-hr]at hI;exact hr▸hI)
   rw[<-hr]at hst hI ⊢
   obtain⟨f0,hf0,hp0,htk⟩:=hst
   have HI0:Box (L.take r=(L.take (r+1)).filter (fun f=>!p f)):=⟨by rw[jV L _ r f0 hf0,hp0,htk];simp⟩
   clear hf0 hp0 htk hr
   go_wp2
   go_loopw [5,6] (fun c5 c6 wr=>∃(i j:Nat) (M:List Fl),j<=L.length/\c5=.int .i64 i/\c6=.int .i64 j/\i<j/\M.length<=L.length/\L.length<=M.length/\Box (gu wr B (.slice (some ⟨g,0,none⟩) L.length cap) M)/\Box (M.take i=(L.take j).filter (fun f=>!p f))/\Box (M.drop j=L.drop j)/\Below B w wr) (fun _ c6 _=>L.length - (intOf c6).toNat)
   case atStart=>exact⟨r,r+1,L,by omega,rfl,by go_num,by omega,aak _,aak _,HO1,HI0,⟨rfl⟩,hb1.mono hBw⟩
   case round=>
    obtain⟨i,j,M,hj,rfl,rfl,hij,hM1,hM2,HOr,HTk,HDr,hb⟩:=hrel
    have hML:M.length=L.length:=aam hM1 hM2
    have HML:=Box.m hML
    have hszr:=hb.size
    by_cases hlt:j<L.length
    ·obtain⟨f,HF⟩:∃f,Box (L[j]?=some f):=⟨_,⟨ZY hlt⟩⟩
     have hMj:M[j]?=some f:=by
      have h1:=congrArg (fun l=>l[0]?) HDr.o
      simpa[Z9,HF.o]using h1
     have hjM:j<M.length:=by omega
     have hiM:i<M.length:=by omega
     have hOM:gu wr B (.slice (some ⟨g,0,none⟩) M.length cap) M:=by rw[hML];exact HOr.o
     have hcj:=hOM.cell j hjM
     have hMe:M[j]=f:=by rw[ZY hjM]at hMj;exact Option.some.inj hMj
     rw[hMe]at hcj
     obtain⟨d0,d1,_⟩:=hcj
     have hfs:=HT.o.2 f (aaa HF.o)
     obtain⟨fn,fv⟩:=f
     simp only at d0 d1 hfs
     have hgr:g<wr.heap.size:=World.block_lt_of_cell? wr _ d0
     have hba:=aD wr (WX fn fv)
     have HFt:=Box.m (jV L (fun f=>!p f) j _ HF.o)
     have HOM:=Box.m hOM
     clear hML hMj hMe hOM hb1 HOr HI0 HO1
     cases hq:p (fn,fv)
     ·go_wp2_with fail
      refine(HN.o fn fv _ false hfs.1 hq).mono ?_
      rintro e w2 ⟨rfl,hb2⟩
      obtain⟨y0,y1,yf⟩:=KD ((hb2.block wr.heap.size (by simp)).trans (bG wr (WX fn fv)))
      have hO2:=(HOM.o.below hba af).below hb2 af
      obtain⟨e0,e1,_⟩:=hO2.cell i hiM
      have hfz:∀k,w2.frozen? ⟨g,k,none⟩=false:=fun k=>World.ownsRow.frozenAt (show w2.ownsRow B 125 2 (.slice (some ⟨g,0,none⟩) M.length cap) M.length (aX M)from hO2) k
      have HO3:Box (gu ((w2.setCell ⟨g,i*2,none⟩ (.string fn)).setCell ⟨g,i*2+1,none⟩ (.string fv)) B (.slice (some ⟨g,0,none⟩) L.length cap) (M.set i (fn,fv))):=⟨by have:=hO2.set2 i hiM fn fv;rw[HML.o]at this;exact this⟩
      have HT':Box ((M.set i (fn,fv)).take (i+1)=(L.take (j+1)).filter (fun f=>!p f)):=⟨by rw[HFt.o,hq,pz M i _ hiM,HTk.o];rfl⟩
      have HD':Box ((M.set i (fn,fv)).drop (j+1)=L.drop (j+1)):=⟨by
       rw[aab (by omega),<-ZV,HDr.o,ZV]⟩
      have hb2w:=(hb.trans (hba.mono (aaj hBw hszr))).trans (hb2.mono (by simp;omega))
      clear HOM HFt HTk HDr  hq hb2 hO2 hba hb
      go_wp2
      go_roundw
      case rel=>
       refine⟨_,_,_,_,_,_,_,_,_,_,_,_,_,_,_,_,_,_,_,_,_,_,_,⟨i+1,j+1,M.set i (fn,fv),by omega,by go_num,by go_num,by omega,by simp;omega,by simp;omega,HO3,HT',HD',?_⟩,rfl⟩
       exact Below.setCell (Below.setCell hb2w (by exact hBg) _) (by exact hBg) _
      case measure=>simp[intOf];omega
     ·go_wp2_with fail
      refine(HN.o fn fv _ true hfs.1 hq).mono ?_
      rintro e w2 ⟨rfl,hb2⟩
      have HO3:Box (gu w2 B (.slice (some ⟨g,0,none⟩) L.length cap) M):=⟨by have:=(HOM.o.below hba af).below hb2 af;rw[HML.o]at this;exact this⟩
      have HT':Box (M.take i=(L.take (j+1)).filter (fun f=>!p f)):=⟨by rw[HFt.o,hq,HTk.o];simp⟩
      have HD':Box (M.drop (j+1)=L.drop (j+1)):=⟨by rw[<-ZV,HDr.o,ZV]⟩
      have hb2w:=(hb.trans (hba.mono (aaj hBw hszr))).trans (hb2.mono (by simp;omega))
      clear HOM HFt HTk HDr  hq hb2 hba hb
      go_wp2
      go_roundw
      case rel=>exact⟨_,_,_,_,_,_,_,_,_,_,_,_,_,_,_,_,_,_,_,_,_,_,_,⟨i,j+1,M,by omega,by go_num,by go_num,by omega,by omega,by omega,HO3,HT',HD',hb2w⟩,rfl⟩
      case measure=>simp[intOf];omega
    ·have HE:Box (M.take i=L.filter (fun f=>!p f)):=⟨by rw[HTk.o,ZW (by omega)]⟩
     clear HTk HDr HI0 HO1 hML
     obtain⟨w3,hr3,hown3,hg3⟩:=Nj wr B g L.length cap i 0 M HOr.o (by omega) HML.o
     go_wp2
     go_ret
     exact⟨_,rfl,by rw[<-HE.o];exact hown3,hb.grown hg3 (aaj hBw hszr) (fun k e=>by cases e;exact hBg)⟩
  ·have HFI:=Box.m (kv (fun f=>!p f) L hI)
   clear hI
   go_wp2
   go_ret
   exact⟨_,rfl,by rw[HFI.o];exact HO1.o,hb1.mono hBw⟩
theorem pM{w:World}{B:Nat}{v:Value}{L:List Fl}(h:bJ w B v L):∃A cap,v=.slice A L.length cap/\L.length<=cap:=by
 rcases h.shape with⟨rfl,rfl⟩|⟨g,cap,rfl,_,_,hc⟩
 ·exact⟨_,_,rfl,aak _⟩
 ·exact⟨_,_,rfl,hc⟩
def PE(f:Fl):Bool:=decide (ah f.1.data.toList=ciN)
theorem ND(v:Value)(L:List Fl)(id:ByteArray)(w:World)(hT:Hd L)(hF:FL w v L)(hi:id.size<=50000):
  Calls prog 74 #[v,.string id] w fun e w'=>∃u M,e=.returned u/\bJ w' w.heap.size u M/\M.map fl2=((L.map fl2).filter fun f=>!decide (ah f.1=ciN))++[(ciB,cK id.data.toList)]/\M.length<=L.length+1/\Below w.heap.size w w':=by
 obtain⟨A,cap,hv,hcap,hcells⟩:=_root_.id hF
 subst hv
 have HT:=Box.m hT.half.tiny
 have HF:=Box.m hF
 have hlen:=hT.1
 clear hT hF hcells
 go_enter func74,ntmps74
 go_wp2_with fail
 refine(pI _ L _ HT.o HF.o).mono ?_
 rintro e w1 ⟨v1,rfl,hO1,hb1⟩
 have HO1:=Box.m hO1
 clear hO1
 go_wp2_with fail
 refine(Qr v1 L w.heap.size _ HT.o HO1.o hb1.size PE (fun n v w1 q hn hq=>TP n v w1 q hn hq)).mono ?_
 rintro e w2 ⟨v2,rfl,hO2,hb2⟩
 have hb02:=hb1.trans hb2
 obtain⟨A2,cap2,rfl,-⟩:=pM hO2
 have HO2:=Box.m hO2
 clear hO2 HO1
 go_wp2_with fail
 refine(wE id _ (by omega)).mono ?_
 rintro e w3 ⟨t,rfl,ht,hts,hw3⟩
 obtain rfl:=hw3.symm
 have hl:(L.filter fun f=>!PE f).length<=L.length:=Z6 _ _
 have hl2:(L.filter fun f=>!PE f).length+1<=1000000:=by omega
 have HM:Box (((L.filter fun f=>!PE f)++[(QS,t)]).map fl2=((L.map fl2).filter fun f=>!decide (ah f.1=ciN))++[(ciB,cK id.data.toList)]):=⟨by
  rw[aae,aaf,<-ht]
  rfl⟩
 have hl3:((L.filter fun f=>!PE f)++[(QS,t)]).length<=L.length+1:=by
  rw[Z5]
  exact Nat.add_le_add_right hl 1
 have hsz:=hb02.size
 generalize (L.filter fun f=>!PE f)=M at HO2 HM hl hl2 hl3 ⊢
 clear ht hts
 go_wp2_with (at_builtin;refine GU _ w rfl (.tmp 9) (.tmp 13) rfl w.heap.size _ M rfl (World.ownsRow.alloc HO2.o _) _ _ (QS,t) rfl (by simp;rfl) (by simp) hl2 (by simp;omega) (hb02.alloc hsz _) ?_;intro v4 w4 hO4 hb4)
 obtain⟨A4,cap4,rfl,-⟩:=pM hO4
 go_wp2
 go_ret
 exact⟨_,_,rfl,hO4,HM.o,hl3,hb4⟩
def Ar:ByteArray:=⟨#[115,116,97,114,116]⟩
def DX(f:Fl):Bool:=decide (f.1.data.toList=stN)
theorem Vd(ps:List PB):∀p∈ps,p.1.length+p.2.length+2<=l8 ps:=by
 induction ps with
 | nil=>intro p hp;cases hp
 | cons q ps ih=>
  intro p hp
  rw[fU]
  rcases List.mem_cons.1 hp with rfl|hp
  ·omega
  ·have:=ih p hp;omega
theorem LB(ps:List PB)(h:ps.all kG=true):3*ps.length<=l8 ps:=by
 induction ps with
 | nil=>exact aal _
 | cons q ps ih=>
  rw[ZX,aan]at h
  have h1:=ih h.2
  have h2:1<=q.1.length:=by
   have:=h.1
   unfold kG kP at this
   simp only[aan]at this
   cases hq:q.1 with
   | nil=>rw[hq]at this;simp at this
   | cons _ _=>simp
  rw[fU,aag]
  omega
theorem Oz(S:ByteArray):∀(L:List Fl) (r:Nat) (f:Fl),r=aM (fun f=>!ji f) L->L[r]?=some f->C8 S.data.toList (L.map fl2)=(L.set r (f.1,S)).map fl2
 | [],r,f,_,h=>by simp at h
 | a::L,r,f,hr,h=>by
  rw[Z7]
  unfold C8
  unfold aM at hr
  rw[List.takeWhile_cons]at hr
  have ht:ji a=decide (ah (fl2 a).1=ctN):=rfl
  cases hq:ji a with
  | true=>
   rw[hq]at ht hr
   obtain rfl:r=0:=by simpa using hr
   obtain rfl:a=f:=by simpa using h
   rw[if_pos (of_decide_eq_true ht.symm),List.set_cons_zero,Z7]
   rfl
  | false=>
   rw[hq]at ht hr
   rw[if_neg (of_decide_eq_false ht.symm)]
   obtain⟨r',rfl⟩:∃r',r=r'+1:=⟨(L.takeWhile (fun f=>!ji f)).length,by simpa using hr⟩
   rw[List.set_cons_succ,Z7,Oz S L r' f (by unfold aM;simpa using hr) (by simpa using h)]
theorem Zq(L:List Fl)(q:aa×List PB)(hq:eO (jG (L.map fl2) ctN)=some q):aM (fun f=>!ji f) L<L.length:=by
 by_cases hl:aM (fun f=>!ji f) L<L.length
 ·exact hl
 ·exfalso
  have hle:aM (fun f=>!ji f) L<=L.length:=by unfold aM;exact(List.takeWhile_sublist _).length_le
  have hf:=kv (fun f=>!ji f) L (by omega)
  have hn:vg (L.map fl2) ctN=none:=by
   unfold vg
   rw[List.find?_eq_none]
   intro x hx
   obtain⟨y,hy,rfl⟩:=aad.1 hx
   have h2:=List.filter_eq_self.1 hf y hy
   simp only[ji,Bool.not_eq_true',decide_eq_false_iff_not]at h2
   simp only[decide_eq_true_eq]
   exact h2
  unfold jG at hq
  rw[hn]at hq
  have:eO []=none:=by decide
  rw[show((Option.map (fun x:PB=>x.2) none).getD []:aa)=[]from rfl,this]at hq
  cases hq
theorem ME(L P:List Fl)(q:aa×List PB)(m t id:ByteArray)(hK:iH (L.map fl2)=q)(hm:m.data.toList=q.1)(hP:P.map pb2=q.2)(ht:t.data.toList=cK id.data.toList):
  eQ m.data.toList (((P.filter fun f=>!DX f)++[(Ar,t)]).map pb2)=nR (L.map fl2) id.data.toList:=by
 unfold nR
 rw[hK,hm,<-hP]
 congr 1
 rw[aae,aaf]
 congr 1
 show[(Ar.data.toList,t.data.toList)]=_
 rw[ht]
 rfl
theorem Ev(P:List Fl)(q:aa×List PB)(t id:ByteArray)(hg:q.2.all kG=true)(hP:P.map pb2=q.2)(ht:t.data.toList=cK id.data.toList)(hin:(cK id.data.toList).all inC=true):
  ((P.filter fun f=>!DX f)++[(Ar,t)]).all gY=true:=by
 rw[ZZ,aan]
 constructor
 ·rw[aah]
  intro f hf
  rw[<-hP,List.all_map,aah]at hg
  exact hg f (aai.1 hf).1
 ·rw[ZX,Z0,Bool.and_true]
  show(kP Ar.data.toList&&decide (ah Ar.data.toList=Ar.data.toList)&&t.data.toList.all inC)=true
  rw[ht,hin]
  decide
theorem Jm(P:List Fl)(t:ByteArray)(hl:P.length<=7000)(hs:∀f∈P,f.1.size+f.2.size+2<=20000)(ht:t.size<=20002):Mid ((P.filter fun f=>!DX f)++[(Ar,t)]):=by
 have hfl:(P.filter fun f=>!DX f).length<=P.length:=Z6 _ _
 refine⟨by rw[Z5];simp only[aag,List.length_nil];omega,fun f hf=>?_⟩
 rcases List.mem_append.1 hf with hf|hf
 ·have:=hs f (aai.1 hf).1;omega
 ·rw[List.mem_singleton.1 hf]
  refine⟨(by decide:Ar.size<=24300),?_⟩
  show t.size<=_
  omega
theorem ED(v:Value)(L:List Fl)(id:ByteArray)(w:World)(q:aa×List PB)(hT:Hd L)(hF:FL w v L)(hm:Max w)(hq:eO (jG (L.map fl2) ctN)=some q)(hs:(jG (L.map fl2) ctN).length<=20000)(hi:id.size<=20000)(hin:(cK id.data.toList).all inC=true):
  Calls prog 71 #[v,.string id] w fun e w'=>∃u M,e=.returned (.tuple #[u,.nilIface])/\bJ w' w.heap.size u M/\M.map fl2=j4 (L.map fl2) id.data.toList/\M.length=L.length/\Below w.heap.size w w':=by
 obtain⟨A,cap,hv,hcap,hcells⟩:=_root_.id hF
 subst hv
 have hw0:=hm.1
 have HD:=Box.m hT
 have HT:=Box.m hT.half.tiny
 have HF:=Box.m hF
 have HM:=Box.m hm
 have hlen:=hT.1
 have HQ:=Box.m hq
 have hrl:=Zq L q hq
 have hKq:iH (L.map fl2)=q:=by unfold iH;rw[hq];rfl
 have hgd:=uG _ q.1 q.2 hq
 unfold xZ at hgd
 simp only[aan]at hgd
 have hsum:=wW _ q hq
 have hcnt:=LB q.2 hgd.2
 have HMem:=Box.m (Vd q.2)
 have HG:=Box.m hgd
 have HK:=Box.m hKq
 clear hT hF hcells hm hq hgd hKq
 go_enter func71,ntmps71
 go_wp2_with fail
 refine(wQ _ L _ HD.o HF.o HM.o).mono ?_
 rintro e w1 ⟨⟨m,v1,P,rfl,hm1,hP1,hO1,hPd,hms⟩,hb1⟩
 rw[HK.o]at hm1 hP1
 have HPt:=Box.m hPd.half.tiny
 obtain⟨A1,cap1,hv1⟩:∃A1 cap1,v1=.slice A1 P.length cap1:=by
  rcases hO1.shape with⟨rfl,rfl⟩|⟨g,cap,rfl,_⟩
  ·exact⟨_,_,rfl⟩
  ·exact⟨_,_,rfl⟩
 subst hv1
 have HO1:=Box.m hO1
 have hPl:P.length<=7000:=by
  have:P.length=q.2.length:=by rw[<-hP1,List.length_map]
  omega
 have HPs:Box (∀f∈P,f.1.size+f.2.size+2<=20000):=⟨fun f hf=>by
  have:=HMem.o (pb2 f) (by rw[<-hP1];exact List.mem_map_of_mem hf)
  unfold pb2 at this
  simp only at this
  rw[ae,ae]at this
  omega⟩
 have hms2:m.size<=20000:=by rw[<-ae,hm1];omega
 have HMm:=Box.m hm1
 have HP1:=Box.m hP1
 clear hO1 hm1 hP1 HMem hPd hsum hcnt hs hms
 go_wp2_with fail
 refine(Qd _ P w.heap.size _ HPt.o HO1.o hb1.size DX (fun n v w1 q hn hq=>TH n v w1 q hn hq)).mono ?_
 rintro e w2 ⟨v2,rfl,hO2,hb2⟩
 have hb02:=hb1.trans hb2
 have hO2m:gu w2 w.heap.size v2 (P.filter fun f=>!DX f):=hO2
 obtain⟨A2,cap2,hv2⟩:∃A2 cap2,v2=.slice A2 (P.filter fun f=>!DX f).length cap2:=by
  rcases hO2m.shape with⟨h1,h2⟩|⟨g,cap,h1,_⟩
  ·exact⟨none,0,by rw[h1,h2];rfl⟩
  ·exact⟨_,_,h1⟩
 subst hv2
 have HO2:=Box.m hO2
 clear hO2 hO2m HO1
 go_wp2_with fail
 refine(wE id _ (by omega)).mono ?_
 rintro e w3 ⟨t,rfl,ht,hts,hw3⟩
 obtain rfl:=hw3.symm
 have hfl:(P.filter fun f=>!DX f).length<=P.length:=Z6 _ _
 have HMid:=Box.m (Jm P t (by omega) HPs.o (by omega))
 have HGF:=Box.m (Ev P q t id HG.o.2 HP1.o ht hin)
 have HWK:=Box.m (ME L P q m t id HK.o HMm.o HP1.o ht)
 have hl2:(P.filter fun f=>!DX f).length+1<=1000000:=by omega
 have hsz:=hb02.size
 generalize (P.filter fun f=>!DX f)=N at HO2 HMid HGF HWK hfl hl2 ⊢
 clear ht hin HPs HP1 HPt hts
 go_wp2_with (at_builtin;refine Ox _ w rfl (.tmp 21) (.tmp 25) rfl w.heap.size _ N rfl (World.ownsRow.alloc HO2.o _) _ _ (Ar,t) rfl (by simp;rfl) (by simp) hl2 (by simp;omega) (hb02.alloc hsz _) ?_;intro v4 w4 hO4 hb4)
 have HM4:=Box.m (HM.o.below hb4 hw0)
 have HO4:=Box.m hO4
 clear hO4 HO2 HM
 refine(vU m v4 (N++[(Ar,t)]) _ (by omega) HMid.o (gu.fl HO4.o) HM4.o).mono ?_
 rintro e w5 ⟨hW,hb5⟩
 rcases hW with⟨h,_⟩|⟨_,h,_⟩|⟨_,_,s5,rfl,hs5⟩
 ·rw[HMm.o,HG.o.1]at h;cases h
 ·exfalso
  have:lZ (N++[(Ar,t)])=(N++[(Ar,t)]).length:=ib gY _ HGF.o
  omega
 ·have HS5:Box (s5.data.toList=nR (L.map fl2) id.data.toList):=⟨by rw[hs5,HWK.o]⟩
  have hb05:=hb4.trans (hb5.mono hb4.size)
  have HF5:=Box.m (HF.o.below hb05 af)
  clear hs5 HWK HGF HMid HO4 HM4 HG HMm HK
  go_wp2_with fail
  refine(pI _ L _ HT.o HF5.o).mono ?_
  rintro e w6 ⟨v6,rfl,hO6,hb6⟩
  have hb06:=hb05.trans (hb6.mono hb05.size)
  have hO6w:bJ w6 w.heap.size v6 L:=bJ.mono hO6 hb05.size
  rcases hO6w.shape with⟨_,hL⟩|⟨g6,cap6,hv6,hBg,hgw,hcap6⟩
  ·rw[hL]at hrl;exact absurd hrl (by simp)
  subst hv6
  have HO6:=Box.m hO6w
  clear hO6 hO6w
  go_wp2_with fail
  refine(Qp _ L _ HT.o HO6.o.fl ji (fun n v w1 q hn hq=>Vw n v w1 q hn hq)).mono ?_
  rintro e w7 ⟨hI,hb7⟩
  have hb07:=hb06.trans (hb7.mono hb06.size)
  obtain⟨r,HR⟩:∃r,Box (r=aM (fun f=>!ji f) L):=⟨_,⟨rfl⟩⟩
  rw[<-HR.o]at hI hrl
  rcases hI with⟨_,rfl⟩|⟨hI,_⟩
  ·have HO7:=Box.m (HO6.o.below hb7 af)
   obtain⟨x0,x1,x2⟩:=HO7.o.cell r hrl
   have HO8:=Box.m (HO7.o.set r hrl s5)
   have HE:Box ((L.set r (L[r].1,s5)).map fl2=j4 (L.map fl2) id.data.toList):=⟨by
    unfold j4
    rw[<-HS5.o]
    exact(Oz s5 L r L[r] HR.o (ZY hrl)).symm⟩
   have hln:(L.set r (L[r].1,s5)).length=L.length:=aac
   have HLN:=Box.m hln
   clear hln HS5 HO6 HO7 HF5 HF HR hb7 hb6 hb5
   go_wp2
   go_ret2
   exact⟨_,_,rfl,HO8.o,HE.o,HLN.o,Below.setCell hb07 (by exact hBg) _⟩
  ·omega
end Go.Proofs.YtkldkhdigkpniaaGreatDoor
