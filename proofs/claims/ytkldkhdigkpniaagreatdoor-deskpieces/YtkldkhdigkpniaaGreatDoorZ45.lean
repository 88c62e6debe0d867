import Derived.Test.YtkldkhdigkpniaaGreatDoorZ44
import Derived.Lib.ItoaLen
import Derived.MapKept
import Derived.WideMake
import Derived.Recover
set_option maxHeartbeats 8000000
set_option maxRecDepth 100000
open Nat renaming le_trans → GL, le_of_lt → VQ, lt_of_lt_of_le → Ws, le_refl → Xu, zero_le → ZV
open List renaming length_map → ZW, getElem_mem → ZX, length_append → ZY, mem_map → ZZ, length_cons → Z0, mem_cons → Z4
open Array renaming getElem?_eq_some_iff → Z5
open Go.World renaming block_lt_of_cell? → Z6
namespace Go.Proofs.YtkldkhdigkpniaaGreatDoor
open Go.RowKit Go.Proofs.Px Go.Proofs.Tryz
def E9(b:BB)(o:Option BP):eU:=match o with
 | none=>.error 2
 | some p=>.ok (iq DK ((jD b.ps p).map tL))
def Sa(σ:Dk)(ws:List (aa)):eU:=nC ws fun a=>dR σ fun b=>lN a fun i=>E9 b (fE b i)
theorem mX(v:aa)(x:AB)(h:bM v=some x):(AV.of x).Small v.length:=by
 obtain⟨h1,h2⟩:=Bl v x h
 have h3:=congrArg List.length h1
 have e:∀l:aa,(ByteArray.mk l.toArray).size=l.length:=fun l=>by rw[<-ae]
 have z1:x.auth.length<=if x.hasA then x.auth.length else 0:=by
  cases hh:x.hasA with
  | false=>rw[h2.auth0 hh];simp
  | true=>simp
 have z2:x.query.length<=if x.hasQ then x.query.length else 0:=by
  cases hh:x.hasQ with
  | false=>rw[h2.query0 hh];simp
  | true=>simp
 have z3:x.frag.length<=if x.hasF then x.frag.length else 0:=by
  cases hh:x.hasF with
  | false=>rw[h2.frag0 hh];simp
  | true=>simp
 have z0:x.sch.length<=if x.sch=[] then 0 else x.sch.length:=by
  split
  ·rename_i hh;rw[hh];simp
  ·exact Xu _
 unfold bQ at h3
 simp only[ZY]at h3
 unfold AV.of
 refine lK ?_ ?_ ?_ ?_ ?_<;>rw[e]<;>split at h3<;>split at h3<;>split at h3<;>split at h3<;>simp_all<;>omega
theorem pR{a:AV}{n m:Nat}(h:a.Small n)(hm:n<=m):a.Small m:=⟨GL h.sc hm,GL h.au hm,GL h.pa hm,GL h.qu hm,GL h.fr hm⟩
theorem Va(ps:List BP)(loc:AV)(hp:loc.Small 270000)(v:aa)(hv:v.length<=100000):(iJ ps loc.ab v).1.length<=10000000:=by
 unfold iJ
 cases hr:bM v with
 | none=>simp only;omega
 | some x=>
  simp only
  have h1:=nV hp (pR (mX v x hr) (by omega:v.length<=270000))
  have h2:=j3 _ _ h1
  rw[<-ae]at h2
  have e:(iG (qw loc (AV.of x))).data.toList=bQ (jv loc.ab x):=by
   show bQ (qw loc (AV.of x)).ab=_
   rw[qW,nS]
  rw[e]at h2
  omega
theorem KO(ps:List XP)(p:XP)(hp:p.loc.Small 270000)(hb:p.bd.size<=100000):(jD (ps.map XP.bp) p.bp).length<=100000/\∀l∈jD (ps.map XP.bp) p.bp,l.1.length<=10000000/\∀n,l.2=some n->n<ps.length:=by
 have h2:p.bp.body.length=p.bd.size:=ae p.bd
 constructor
 ·unfold jD dO
  rw[ZW]
  split
  ·unfold um
   rw[ZW,gT]
   have h1:=jZ none _ _ _ (fV p.bp.body)
   omega
  ·exact ZV _
 ·intro l hl
  unfold jD at hl
  obtain⟨v,hv,rfl⟩:=ZZ.1 hl
  refine⟨Va _ p.loc hp v ?_,fun n hn=>by have:=CR hn;rwa[ZW]at this⟩
  unfold dO at hv
  split at hv
  ·have h1:=pQ _ v hv
   omega
  ·cases hv
theorem mi.len{w:World}{B:Nat}{v:Value}{L:List Ld}(h:mi w B v L):∃A cap,v=.slice A L.length cap:=by
 rcases h.shape with⟨rfl,rfl⟩|⟨g,cap,rfl,_⟩
 ·exact⟨_,_,rfl⟩
 ·exact⟨_,_,rfl⟩
theorem Qy{Xf:Nat->Prop}{w:World}{d:Nat}{σ:Dk}(h:DS Xf w d σ)(v:Value)(xs:List ByteArray)(hX:TL w v xs)(hl:fO (tls xs)<=3000)(hE:lg w d):
  Calls prog 19 #[.pointer (some ⟨d,0,none⟩),v] w fun e w'=>kM (Sa σ (tls xs)) e/\Below w.heap.size w w':=by
 by_cases h1:xs.length=1
 ·obtain⟨x,rfl⟩:∃x,xs=[x]:=List.length_eq_one_iff.1 h1
  have hx:=kZ hl x (by simp)
  have hX0:=hX
  obtain⟨A,cap,rfl,-⟩:=hX
  obtain⟨bw,off,rfl,c0⟩:=hX0.one
  have HN:=Box.m (jl (some ⟨bw,off,none⟩) 1 cap w)
  have hdl:=h.lt
  have HE:=Box.m hE
  have HNm:Box (∀w',Below w.heap.size w w'->Calls prog 40 #[.string x] w' fun e w''=>VM (kC x.data.toList) e/\Below w'.heap.size w' w''):=⟨fun w' hb=>zF x w' d hx (hE.below (hb.mono (VQ hdl)))⟩
  obtain⟨R,HR⟩:∃R,Box (Sa σ (tls [x])=R):=⟨_,⟨rfl⟩⟩
  rw[HR.o]
  clear hX0 hl hE h1
  cases hb:σ.bd with
  | none=>
   have HR2:Box (R=.error 7):=⟨by rw[<-HR.o];show dR σ _=_;unfold dR;rw[hb]⟩
   have HDd:Box (∀w',Below w.heap.size w w'->Calls prog 38 #[.pointer (some ⟨d,0,none⟩)] w' fun e w''=>e=dP 7/\w''=w'):=⟨fun w' hb'=>nz (h.below hb') hb⟩
   clear HR hb h HNm
   go_enter func19,ntmps19
   go_wp2_with fail
   refine HN.o.mono ?_
   rintro e w1 ⟨rfl,hw1⟩
   obtain rfl:=hw1.symm
   go_wp2_with fail
   refine fC 11 (WSt w bw off x) (by kernel_rfl) ?_
   have hS:WSt w bw off x w.drew:=⟨c0,ag.drew⟩
   clear c0
   refine aj (i:=0) (n:=13) (.pointer (some ⟨d,0,none⟩)) rfl rfl (by kernel_rfl) (by kernel_rfl) (by kernel_rfl) (by kernel_rfl) (fun _ _ _ h=>h) rfl (fun w' hS'=>?_) hS ?_
   ·clear hS' hS
    go_simp<;>with_reducible rfl
   simp only[Act.put,aH,aG,aI]
   refine aj (i:=2) (n:=15) (.slice (some ⟨bw,off,none⟩) 1 cap) rfl rfl (by kernel_rfl) (by kernel_rfl) (by kernel_rfl) (by kernel_rfl) (fun _ _ _ h=>h) rfl (fun w' hS'=>?_) hS ?_
   ·clear hS' hS
    go_simp<;>with_reducible rfl
   simp only[Act.put,aH,aG,aI]
   refine aj (i:=3) (n:=16) (.pointer (some ⟨bw,off,none⟩)) rfl rfl (by kernel_rfl) (by kernel_rfl) (by kernel_rfl) (by kernel_rfl) (fun _ _ _ h=>h) rfl (fun w' hS'=>?_) hS ?_
   ·clear hS' hS
    go_simp<;>with_reducible rfl
   simp only[Act.put,aH,aG,aI]
   refine aj (i:=4) (n:=17) (.string x) rfl rfl (by kernel_rfl) (by kernel_rfl) (by kernel_rfl) (by kernel_rfl) (fun _ _ _ h=>h) rfl (fun w' hS'=>?_) hS ?_
   ·have l0:=hS'.c0
    clear hS' hS
    go_simp<;>with_reducible rfl
   simp only[Act.put,aH,aG,aI]
   refine ai (i:=1) (by kernel_rfl) rfl (fun K' hK=>?_)
   rw[if_pos (by rfl)]
   go_wp2_with fail
   refine(HDd.o _ hS.bl).mono ?_
   rintro e w5 ⟨rfl,hw5⟩
   obtain rfl:=hw5.symm
   exact⟨rfl,by rw[HR2.o];rfl,hS.bl⟩
  | some bb=>
   obtain⟨g,hv,hl,A2,cp,ps,root,c1,hB,hbb,-⟩:=h.yes bb hb
   have HDd:Box (∀w',Below w.heap.size w w'->Calls prog 38 #[.pointer (some ⟨d,0,none⟩)] w' fun e w''=>e=.returned (.pointer (some ⟨g,0,none⟩))/\w''=w'):=⟨fun w' hb'=>lL ((hb'.cell (p:=⟨d,1,none⟩) hdl).trans c1)⟩
   have hps:bb.ps=ps.map XP.bp:=by rw[hbb]
   have HB:=Box.m hB
   have HR2:Box (R=WN (kC x.data.toList) fun i=>E9 bb (fE bb i)):=⟨by rw[<-HR.o];show dR σ _=_;unfold dR;rw[hb];rfl⟩
   clear HR hb h c1 hB hbb
   obtain⟨O,HO⟩:∃O,Box (kC x.data.toList=O):=⟨_,⟨rfl⟩⟩
   rw[HO.o]at HNm
   have HR3:Box (R=WN O fun i=>E9 bb (fE bb i)):=⟨by rw[HR2.o,HO.o]⟩
   clear HR2 HO
   cases O with
   | none=>
    have HR2:Box (R=.error 3):=⟨HR3.o⟩
    clear HR3
    go_enter func19,ntmps19
    go_wp2_with fail
    refine HN.o.mono ?_
    rintro e w1 ⟨rfl,hw1⟩
    obtain rfl:=hw1.symm
    go_wp2_with fail
    refine fC 11 (WSt w bw off x) (by kernel_rfl) ?_
    have hS:WSt w bw off x w.drew:=⟨c0,ag.drew⟩
    clear c0
    refine aj (i:=0) (n:=13) (.pointer (some ⟨d,0,none⟩)) rfl rfl (by kernel_rfl) (by kernel_rfl) (by kernel_rfl) (by kernel_rfl) (fun _ _ _ h=>h) rfl (fun w' hS'=>?_) hS ?_
    ·clear hS' hS
     go_simp<;>with_reducible rfl
    simp only[Act.put,aH,aG,aI]
    refine aj (i:=2) (n:=15) (.slice (some ⟨bw,off,none⟩) 1 cap) rfl rfl (by kernel_rfl) (by kernel_rfl) (by kernel_rfl) (by kernel_rfl) (fun _ _ _ h=>h) rfl (fun w' hS'=>?_) hS ?_
    ·clear hS' hS
     go_simp<;>with_reducible rfl
    simp only[Act.put,aH,aG,aI]
    refine aj (i:=3) (n:=16) (.pointer (some ⟨bw,off,none⟩)) rfl rfl (by kernel_rfl) (by kernel_rfl) (by kernel_rfl) (by kernel_rfl) (fun _ _ _ h=>h) rfl (fun w' hS'=>?_) hS ?_
    ·clear hS' hS
     go_simp<;>with_reducible rfl
    simp only[Act.put,aH,aG,aI]
    refine aj (i:=4) (n:=17) (.string x) rfl rfl (by kernel_rfl) (by kernel_rfl) (by kernel_rfl) (by kernel_rfl) (fun _ _ _ h=>h) rfl (fun w' hS'=>?_) hS ?_
    ·have l0:=hS'.c0
     clear hS' hS
     go_simp<;>with_reducible rfl
    simp only[Act.put,aH,aG,aI]
    refine ai (i:=1) (by kernel_rfl) rfl (fun K' hK=>?_)
    rw[if_pos (by rfl)]
    go_wp2_with (go_at_call 38;refine(HDd.o _ hS.bl).mono ?_;rintro e w5 ⟨rfl,hw5⟩;obtain rfl:=hw5.symm)
    refine hK.out _ _ (fun _=>hS) ?_
    clear hK
    refine ai (i:=5) (by kernel_rfl) rfl (fun K' hK=>?_)
    rw[if_pos (by rfl)]
    go_wp2_with fail
    refine(HNm.o _ hS.bl).mono ?_
    rintro e w5 ⟨he,hb5⟩
    have he:e=dP 3:=he
    subst he
    exact⟨rfl,by rw[HR2.o];rfl,(hS.step hb5).bl⟩
   | some i=>
    by_cases hin:0<=i/\i<(ps.length:Int)
    ·obtain⟨k,rfl⟩:∃k:Nat,i=(k:Int):=⟨i.toNat,by omega⟩
     have hk:k<ps.length:=by omega
     have HR2:Box (R=.ok (iq DK ((jD (ps.map XP.bp) ps[k].bp).map tL))):=⟨by
      rw[HR3.o]
      show E9 bb (fE bb (k:Int))=_
      have:fE bb (k:Int)=some ps[k].bp:=by
       unfold fE
       rw[if_pos (by omega),hps]
       simp[hk]
      rw[this,E9,hps]⟩
     have HLe:Box (∀w',Below w.heap.size w w'->Calls prog 50 #[.pointer (some ⟨g,0,none⟩),.int .i64 (k:Int)] w' fun e w''=>∃v L,e=.returned (.tuple #[v,.nilIface])/\mi w'' w'.heap.size v L/\L.map ld2=jD (ps.map XP.bp) ps[k].bp/\Below w'.heap.size w' w''):=⟨fun w' hb'=>by
      have hE':=(HE.o.below (hb'.mono (VQ hdl)))
      have hle:d<=w'.heap.size:=GL (VQ hdl) hb'.size
      exact NZ (HB.o.below hb') k hk (hE'.env hle).pg hE'.gl.mx⟩
     clear HR3 hps
     generalize hi:(k:Int)=i at HNm HLe
     have HXs:Box (ps[k].loc.Small 270000/\ps[k].bd.size<=100000):=⟨(HB.o.xl.sm ps[k] (ZX hk)).ad,(HB.o.xl.sm ps[k] (ZX hk)).bs⟩
     have HM:Box ((jD (ps.map XP.bp) ps[k].bp).length<=100000/\∀l∈jD (ps.map XP.bp) ps[k].bp,l.1.length<=10000000/\∀n,l.2=some n->n<ps.length):=⟨KO ps ps[k] HXs.o.1 HXs.o.2⟩
     have hpl:=HB.o.xl.len
     generalize jD (ps.map XP.bp) ps[k].bp=M at HR2 HLe HM
     clear HXs HB hin hk
     go_enter func19,ntmps19
     go_wp2_with fail
     refine HN.o.mono ?_
     rintro e w1 ⟨rfl,hw1⟩
     obtain rfl:=hw1.symm
     go_wp2_with fail
     refine fC 11 (WSt w bw off x) (by kernel_rfl) ?_
     have hS:WSt w bw off x w.drew:=⟨c0,ag.drew⟩
     clear c0
     refine aj (i:=0) (n:=13) (.pointer (some ⟨d,0,none⟩)) rfl rfl (by kernel_rfl) (by kernel_rfl) (by kernel_rfl) (by kernel_rfl) (fun _ _ _ h=>h) rfl (fun w' hS'=>?_) hS ?_
     ·clear hS' hS
      go_simp<;>with_reducible rfl
     simp only[Act.put,aH,aG,aI]
     refine aj (i:=2) (n:=15) (.slice (some ⟨bw,off,none⟩) 1 cap) rfl rfl (by kernel_rfl) (by kernel_rfl) (by kernel_rfl) (by kernel_rfl) (fun _ _ _ h=>h) rfl (fun w' hS'=>?_) hS ?_
     ·clear hS' hS
      go_simp<;>with_reducible rfl
     simp only[Act.put,aH,aG,aI]
     refine aj (i:=3) (n:=16) (.pointer (some ⟨bw,off,none⟩)) rfl rfl (by kernel_rfl) (by kernel_rfl) (by kernel_rfl) (by kernel_rfl) (fun _ _ _ h=>h) rfl (fun w' hS'=>?_) hS ?_
     ·clear hS' hS
      go_simp<;>with_reducible rfl
     simp only[Act.put,aH,aG,aI]
     refine aj (i:=4) (n:=17) (.string x) rfl rfl (by kernel_rfl) (by kernel_rfl) (by kernel_rfl) (by kernel_rfl) (fun _ _ _ h=>h) rfl (fun w' hS'=>?_) hS ?_
     ·have l0:=hS'.c0
      clear hS' hS
      go_simp<;>with_reducible rfl
     simp only[Act.put,aH,aG,aI]
     refine ai (i:=1) (by kernel_rfl) rfl (fun K' hK=>?_)
     rw[if_pos (by rfl)]
     go_wp2_with (go_at_call 38;refine(HDd.o _ hS.bl).mono ?_;rintro e w5 ⟨rfl,hw5⟩;obtain rfl:=hw5.symm)
     refine hK.out _ _ (fun _=>hS) ?_
     clear hK
     refine ai (i:=5) (by kernel_rfl) rfl (fun K' hK=>?_)
     rw[if_pos (by rfl)]
     go_wp2_with (go_at_call 40;refine(HNm.o _ hS.bl).mono ?_;rintro e w5 ⟨he,hb5⟩;obtain rfl:e=.returned (.int .i64 i):=he)
     have hS5:=hS.step hb5
     refine hK.out _ _ (fun _=>hS5) ?_
     clear hK hS
     have hS:=hS5
     refine ai (i:=6) (by kernel_rfl) rfl (fun K' hK=>?_)
     rw[if_pos (by rfl)]
     go_wp2_with (go_at_call 50;refine(HLe.o _ hS.bl).mono ?_;rintro e w6 ⟨v6,P,rfl,hO6,hL6,hb6⟩;obtain⟨A6,c6,rfl⟩:=hO6.len)
     have hS6:=hS.step hb6
     refine hK.out _ _ (fun _=>hS6) ?_
     clear hK hS hS5
     have hS:=hS6
     refine aj (i:=7) (n:=12) (.tuple #[.slice A6 P.length c6,.nilIface]) rfl rfl (by kernel_rfl) (by kernel_rfl) (by kernel_rfl) (by kernel_rfl) (fun _ _ _ h=>h) rfl (fun w' hS'=>?_) hS ?_
     ·clear hS' hS
      go_simp<;>with_reducible rfl
     simp only[Act.put,aH,aG,aI]
     refine aj (i:=8) (n:=20) (.slice A6 P.length c6) rfl rfl (by kernel_rfl) (by kernel_rfl) (by kernel_rfl) (by kernel_rfl) (fun _ _ _ h=>h) rfl (fun w' hS'=>?_) hS ?_
     ·clear hS' hS
      go_simp<;>with_reducible rfl
     simp only[Act.put,aH,aG,aI]
     refine aj (i:=9) (n:=21) (.nilIface) rfl rfl (by kernel_rfl) (by kernel_rfl) (by kernel_rfl) (by kernel_rfl) (fun _ _ _ h=>h) rfl (fun w' hS'=>?_) hS ?_
     ·clear hS' hS
      go_simp<;>with_reducible rfl
     simp only[Act.put,aH,aG,aI]
     refine ai (i:=10) (by kernel_rfl) rfl (fun K' hK=>?_)
     rw[if_pos (by rfl)]
     go_wp2
     refine hK.out _ _ (fun _=>hS) ?_
     clear hK
     have hbl:=hS.bl
     clear hS hS6
     refine ai (i:=11) (by kernel_rfl) rfl (fun K' hK=>?_)
     rw[if_pos (by rfl)]
     go_wp2
     refine hK.out _ _ (fun h=>absurd rfl h) ?_
     clear hK
     refine ja (by kernel_rfl) ?_ _
     have HE6:=Box.m (HE.o.below (hbl.mono (VQ hdl)))
     have hdl6:d<=w6.heap.size:=GL (VQ hdl) hbl.size
     have HO2:=Box.m hO6
     have HLM:=Box.m hL6
     have hll:P.length<=100000:=by have:=HM.o.1;rw[<-hL6,ZW]at this;exact this
     have HLq:Box (∀j (hj:j<P.length),P[j].1.size<=10000000/\∀n,P[j].2=some n->n<=1000000):=⟨fun j hj=>by
      have:=HM.o.2 (ld2 P[j]) (by rw[<-hL6];exact List.mem_map_of_mem (ZX hj))
      rw[<-ae]
      exact⟨this.1,fun n hn=>by have:=this.2 n hn;omega⟩⟩
     have HI:Box (∀(r:Option Nat) (z:Int) (w':World),jB r=.int .i64 z->(∀n,r=some n->n<=1000000)->Below w6.heap.size w6 w'->Calls prog 11 #[.int .i64 z] w' fun e w''=>∃D:ByteArray,e=.returned (.string D)/\D.data.toList=Lib.itoa (nO r)/\D.size<=21/\Below w'.heap.size w' w''):=⟨fun r z w' hz hn hb=>by
      rw[<-hz]
      refine(EN r w' hn (HE6.o.below (hb.mono hdl6)).tb).mono ?_
      rintro e w'' ⟨T,rfl,hT,hb''⟩
      refine⟨_,rfl,hT,?_,hb''⟩
      rw[<-ae,hT]
      cases r with
      | none=>exact Lib.itoa_length_le _ (by simp[nO]) (by simp[nO])
      | some n=>have:=hn n rfl;exact Lib.itoa_length_le _ (by show(-9223372036854775808:Int)<=(n:Int);omega) (by show(n:Int)<=9223372036854775807;omega)⟩
     have HSh:Box (∀(s:ByteArray) (w':World),s.size<=10000000->Calls prog 44 #[.string s] w' fun e w''=>∃D:ByteArray,e=.returned (.string D)/\D.data.toList=ed s.data.toList/\D.size<=40000000/\Below w'.heap.size w' w''):=⟨fun s w' hs=>by
      refine(iR s w' hs).mono ?_
      rintro e w'' ⟨D,rfl,hD,hb''⟩
      have:=gH s.data.toList
      rw[ae]at this
      exact⟨D,rfl,hD,by rw[<-ae,hD];omega,hb''⟩⟩
     clear hO6 hL6 HE HE6 HN HDd HNm HLe
     go_wp2_with fail
     refine(iw _).mono ?_
     rintro e w7 ⟨rfl,hw7⟩
     obtain rfl:=hw7.symm
     go_wp2
     go_loopw [7,26] (fun x i wr=>∃(j:Nat) (L:List ByteArray),j<=P.length/\i=.int .i64 j/\L.length<=j/\Box (aV wr w6.heap.size x L)/\Box (tls L=(P.take j).map fun l=>tL (ld2 l))/\Below w6.heap.size w6 wr) (fun _ i _=>P.length - (intOf i).toNat)
     case atStart=>exact⟨0,[],ZV _,rfl,Xu _,⟨aV.nil _ _⟩,⟨rfl⟩,Below.refl _ _⟩
     case round=>
      obtain⟨j,L,hj,rfl,hLj,HO,HVL,hb⟩:=hrel
      have hsz:=hb.size
      by_cases hlt:j<P.length
      ·rcases HO2.o.shape with⟨_,hn⟩|⟨gl,cg,hg,_,hg2,_⟩
       ·rw[hn]at hlt;exact absurd hlt (by simp)
       simp only[Value.slice.injEq]at hg
       obtain⟨rfl,_,rfl⟩:=hg
       obtain⟨e0,e1⟩:=(HO2.o.below hb af).cell j hlt
       obtain⟨h0,h1⟩:=HLq.o j hlt
       have HV2:Box ((P.take (j+1)).map (fun l=>tL (ld2 l))=(P.take j).map (fun l=>tL (ld2 l))++[ed P[j].1.data.toList++[32]++Lib.itoa (nO P[j].2)]):=⟨by
        rw[List.take_add_one,List.getElem?_eq_getElem hlt,List.map_append]
        rfl⟩
       have H1:=Box.m h1
       clear h1
       generalize P[j].1=q0 at e0 h0 HV2
       generalize P[j].2=q1 at e1 H1 HV2
       obtain⟨z,HZ⟩:∃z,Box (jB q1=.int .i64 z):=by
        cases q1 with
        | none=>exact⟨-1,⟨rfl⟩⟩
        | some i=>exact⟨(i:Int),⟨rfl⟩⟩
       rw[HZ.o]at e1
       have k7:(j:Int)<(P.length:Int):=by omega
       have k8:(0:Int)<=(j:Int):=by omega
       have hbP:Below wr.heap.size wr (wr.alloc (.cells #[.string q0,.int .i64 z] 79)):=ag.alloc af _
       have hbW:=hb.trans (hbP.mono hsz)
       have HOA:Box (aV (wr.alloc (.cells #[.string q0,.int .i64 z] 79)) w6.heap.size u7 L):=⟨World.ownsRow.alloc HO.o _⟩
       have HR3:Box (∀x,wr.heap.size<=x->u7.ownBlock≠some x):=⟨fun x hx e=>by have:=(World.ownsRow.lt HO.o x e).2;omega⟩
       have HC3:Box (∀x,u7.ownBlock=some x->w6.heap.size<=x):=⟨fun x e=>(World.ownsRow.lt HO.o x e).1⟩
       clear HO
       go_wp2_with fail
       have p0:(wr.alloc (.cells #[.string q0,.int .i64 z] 79)).cell? ⟨wr.heap.size,0,none⟩=some (.string q0):=by simp
       have p1:(wr.alloc (.cells #[.string q0,.int .i64 z] 79)).cell? ⟨wr.heap.size,1,none⟩=some (.int .i64 z):=by simp
       have hszW:wr.heap.size<(wr.alloc (.cells #[.string q0,.int .i64 z] 79)).heap.size:=by simp
       generalize (wr.alloc (.cells #[.string q0,.int .i64 z] 79))=W at p0 p1 HOA hbW hbP hszW ⊢
       have hCW:w6.heap.size<=W.heap.size:=by omega
       have hL1:L.length+1<=1000000000:=by omega
       have HD:=Box.m (Below.refl W.heap.size W).drew
       clear e0 e1 hbP
       go_region_held3 (fun w'=>w'.cell? ⟨wr.heap.size,0,none⟩=some (.string q0)/\w'.cell? ⟨wr.heap.size,1,none⟩=some (.int .i64 z)/\Below w6.heap.size w6 w')
        ((go_split_ands;first
         | exact nZ ag.drew p0 p1 hbW hCW
         | exact nZ (by assumption) (by assumption) (by assumption) (by assumption) (Below.size (by assumption))
         | exact nZ (ag.alloc af _) (by assumption) (by assumption) (by assumption) (Below.size (by assumption))
         | exact F8 hg6 (by assumption) (by assumption) (by assumption) (Below.size (by assumption)) (HR3.o _ af) HC3.o))
        (first
         | (go_at_call 11;refine(HI.o q1 z _ HZ.o H1.o (by go_split_ands;assumption)).mono ?_;rintro e wa ⟨da,rfl,hda,hza,hba⟩;have hla:Below W.heap.size W wa:=(by first|exact bE HD.o hba|exact bE hlb hba);try (have hz8:¬9223372036854775807<db.size+1+da.size:=(by omega)))
         | (go_at_call 44;refine(HSh.o q0 _ h0).mono ?_;rintro e wb ⟨db,rfl,hdb,hzb,hbb⟩;have hlb:Below W.heap.size W wb:=(by first|exact bE HD.o hbb|exact bE hla hbb);have hz4:¬9223372036854775807<db.size+1:=(by omega);try (have hz8:¬9223372036854775807<db.size+1+da.size:=(by omega)))
         | (refine uI _ (by rfl) (.tmp 30) (.tmp 39) (by rfl) w6.heap.size u7 L (by rfl) (World.ownsRow.alloc (aV.below HOA.o (by first|exact hla|exact hlb) af) _) _ _ (db++⟨#[32]⟩++da) (by rfl) (by simp) hL1 (by have hsa:=hla.size;have hsb:=hlb.size;simp;omega) ?_;intro v6 w8 hO6 hg6 hk6)
         | fail)
       all_goals
        have HO7:Box (aV w8 w6.heap.size v6 (L++[db++⟨#[32]⟩++da])):=⟨hO6⟩
        have HV3:Box (tls (L++[db++⟨#[32]⟩++da])=(P.take (j+1)).map fun l=>tL (ld2 l)):=⟨by
         rw[HV2.o,<-HVL.o,<-hda,<-hdb]
         simp[tls]⟩
        obtain⟨A6,n6,c6,rfl⟩:=hO6.slice
        go_split_ands
        clear hO6 hg6 hk6 hba hbb hla hlb hda hdb HR3 HC3 HOA HD hz4 hz8 hza hzb
        go_wp2
        go_roundw
        case rel=>exact⟨j+1,_,by omega,by go_num,by rw[ZY];simp;omega,HO7,HV3,by assumption⟩
        case measure=>simp[intOf];omega
      ·have HV3:Box (tls L=M.map tL):=⟨by rw[HVL.o,List.take_of_length_le (by omega),<-HLM.o,List.map_map];rfl⟩
       have HTl:=Box.m HO.o.tl
       obtain⟨AL2,nL,cL,rfl⟩:=HO.o.slice
       have HLd:=Box.m (uy ⟨#[108,101,97,100,115]⟩ _ L wr (by decide) HTl.o (by omega) (by
        rw[HV3.o]
        refine GL (Ay _ 40000000 100000 ?_ ?_) (by decide)
        ·intro x hx
         obtain⟨l,hl,rfl⟩:=ZZ.1 hx
         obtain⟨h0,h1⟩:=HM.o.2 l hl
         have a2:=gH l.1
         have a0:(Lib.itoa (nO l.2)).length<=21:=by
          cases h2:l.2 with
          | none=>exact Lib.itoa_length_le _ (by simp[nO]) (by simp[nO])
          | some n=>have:=h1 n h2;exact Lib.itoa_length_le _ (by show(-9223372036854775808:Int)<=(n:Int);omega) (by show(n:Int)<=9223372036854775807;omega)
         unfold tL
         simp only[ZY,Z0,List.length_nil]
         omega
        ·rw[ZW];exact HM.o.1))
       rw[HV3.o]at HLd
       clear HVL HI HSh HLq HM
       go_wp2_with fail
       refine HLd.o.mono ?_
       rintro e w8 ⟨T,rfl,hT,hb7⟩
       have HT:=Box.m hT
       have hbw:=(hbl.trans (hb.mono hbl.size)).trans (hb7.mono (hbl.trans (hb.mono hbl.size)).size)
       clear hT HLd
       go_wp2
       go_ret
       exact⟨by rw[HR2.o];exact⟨T,rfl,HT.o⟩,hbw⟩
    ·have HR2:Box (R=.error 2):=⟨by
      rw[HR3.o]
      have:fE bb i=none:=by
       unfold fE
       split
       ·rw[List.getElem?_eq_none (by rw[hps,ZW];omega)]
       ·rfl
      show E9 bb (fE bb i)=_
      rw[this]
      rfl⟩
     have HLe:Box (∀w',Below w.heap.size w w'->Calls prog 50 #[.pointer (some ⟨g,0,none⟩),.int .i64 i] w' fun e w''=>e=.returned (.tuple #[.slice none 0 0,.iface 25 (.int .i64 2)])/\Below w'.heap.size w' w''):=⟨fun w' hb'=>UT (HB.o.below hb') i hin⟩
     clear HR3 hps
     go_enter func19,ntmps19
     go_wp2_with fail
     refine HN.o.mono ?_
     rintro e w1 ⟨rfl,hw1⟩
     obtain rfl:=hw1.symm
     go_wp2_with fail
     refine fC 11 (WSt w bw off x) (by kernel_rfl) ?_
     have hS:WSt w bw off x w.drew:=⟨c0,ag.drew⟩
     clear c0
     refine aj (i:=0) (n:=13) (.pointer (some ⟨d,0,none⟩)) rfl rfl (by kernel_rfl) (by kernel_rfl) (by kernel_rfl) (by kernel_rfl) (fun _ _ _ h=>h) rfl (fun w' hS'=>?_) hS ?_
     ·clear hS' hS
      go_simp<;>with_reducible rfl
     simp only[Act.put,aH,aG,aI]
     refine aj (i:=2) (n:=15) (.slice (some ⟨bw,off,none⟩) 1 cap) rfl rfl (by kernel_rfl) (by kernel_rfl) (by kernel_rfl) (by kernel_rfl) (fun _ _ _ h=>h) rfl (fun w' hS'=>?_) hS ?_
     ·clear hS' hS
      go_simp<;>with_reducible rfl
     simp only[Act.put,aH,aG,aI]
     refine aj (i:=3) (n:=16) (.pointer (some ⟨bw,off,none⟩)) rfl rfl (by kernel_rfl) (by kernel_rfl) (by kernel_rfl) (by kernel_rfl) (fun _ _ _ h=>h) rfl (fun w' hS'=>?_) hS ?_
     ·clear hS' hS
      go_simp<;>with_reducible rfl
     simp only[Act.put,aH,aG,aI]
     refine aj (i:=4) (n:=17) (.string x) rfl rfl (by kernel_rfl) (by kernel_rfl) (by kernel_rfl) (by kernel_rfl) (fun _ _ _ h=>h) rfl (fun w' hS'=>?_) hS ?_
     ·have l0:=hS'.c0
      clear hS' hS
      go_simp<;>with_reducible rfl
     simp only[Act.put,aH,aG,aI]
     refine ai (i:=1) (by kernel_rfl) rfl (fun K' hK=>?_)
     rw[if_pos (by rfl)]
     go_wp2_with (go_at_call 38;refine(HDd.o _ hS.bl).mono ?_;rintro e w5 ⟨rfl,hw5⟩;obtain rfl:=hw5.symm)
     refine hK.out _ _ (fun _=>hS) ?_
     clear hK
     refine ai (i:=5) (by kernel_rfl) rfl (fun K' hK=>?_)
     rw[if_pos (by rfl)]
     go_wp2_with (go_at_call 40;refine(HNm.o _ hS.bl).mono ?_;rintro e w5 ⟨he,hb5⟩;obtain rfl:e=.returned (.int .i64 i):=he)
     have hS5:=hS.step hb5
     refine hK.out _ _ (fun _=>hS5) ?_
     clear hK hS
     have hS:=hS5
     refine ai (i:=6) (by kernel_rfl) rfl (fun K' hK=>?_)
     rw[if_pos (by rfl)]
     go_wp2_with (go_at_call 50;refine(HLe.o _ hS.bl).mono ?_;rintro e w6 ⟨rfl,hb6⟩)
     have hS6:=hS.step hb6
     refine hK.out _ _ (fun _=>hS6) ?_
     clear hK hS hS5
     have hS:=hS6
     refine aj (i:=7) (n:=12) (.tuple #[.slice none 0 0,.iface 25 (.int .i64 2)]) rfl rfl (by kernel_rfl) (by kernel_rfl) (by kernel_rfl) (by kernel_rfl) (fun _ _ _ h=>h) rfl (fun w' hS'=>?_) hS ?_
     ·clear hS' hS
      go_simp<;>with_reducible rfl
     simp only[Act.put,aH,aG,aI]
     refine aj (i:=8) (n:=20) (.slice none 0 0) rfl rfl (by kernel_rfl) (by kernel_rfl) (by kernel_rfl) (by kernel_rfl) (fun _ _ _ h=>h) rfl (fun w' hS'=>?_) hS ?_
     ·clear hS' hS
      go_simp<;>with_reducible rfl
     simp only[Act.put,aH,aG,aI]
     refine aj (i:=9) (n:=21) (.iface 25 (.int .i64 2)) rfl rfl (by kernel_rfl) (by kernel_rfl) (by kernel_rfl) (by kernel_rfl) (fun _ _ _ h=>h) rfl (fun w' hS'=>?_) hS ?_
     ·clear hS' hS
      go_simp<;>with_reducible rfl
     simp only[Act.put,aH,aG,aI]
     refine ai (i:=10) (by kernel_rfl) rfl (fun K' hK=>?_)
     rw[if_pos (by rfl)]
     go_wp2
     refine hK.out _ _ (fun _=>hS) ?_
     clear hK
     have hbl:=hS.bl
     clear hS hS6
     refine ai (i:=11) (by kernel_rfl) rfl (fun K' hK=>?_)
     rw[if_pos (by rfl)]
     go_wp2
     refine hK.out _ _ (fun h=>absurd rfl h) ?_
     clear hK
     refine ja (by kernel_rfl) ?_ _
     have HEt:=Box.m (HE.o.below (hbl.mono (VQ hdl))).gl.et
     go_wp2_with fail
     refine(jh 2 _ HEt.o).mono ?_
     rintro e w7 ⟨rfl,hb7⟩
     go_wp2
     exact⟨rfl,by rw[HR2.o];rfl,hbl.trans (hb7.mono hbl.size)⟩
 ·have hn:Sa σ (tls xs)=.error 3:=xw (by rw[di];exact h1) _
  rw[hn]
  obtain⟨A,cap,rfl,-⟩:=hX
  have HN:=Box.m (kD A xs.length cap 1 w h1)
  clear hl hE hn h1 h
  go_enter func19,ntmps19
  go_wp2_with fail
  refine HN.o.mono ?_
  rintro e w1 ⟨rfl,hw1⟩
  obtain rfl:=hw1.symm
  go_wp2
  exact⟨rfl,rfl,Below.refl _ _⟩
section
variable {P:Program} {ops:Array Oper} {Q:Exit->Act->World->Prop} {md:Region.Mode} {S:World->Prop} {k:Nat}
theorem yJ{j i:Nat}(hw:nG md ops j i=true){listed:Array Bool}(h0:listed.getD i true=false)(hj:j∈Region.ready md ops listed):False:=by
 obtain⟨_,ok,hok,hall⟩:=mem_ready.1 hj
 unfold nG at hw
 rw[hok]at hw
 simp only[Array.any_eq_true,Bool.and_eq_true,beq_iff_eq]at hw
 obtain⟨n,hn,hb,he⟩:=hw
 have h1:=hall ok.after[n] (Array.getElem_mem hn) hb
 rw[he]at h1
 rcases Nat.lt_or_ge i listed.size with h'|h'
 ·simp[h']at h0 h1;rw[h0]at h1;cases h1
 ·simp[Array.getElem?_eq_none h']at h1
def TK(md:Region.Mode)(ops:Array Oper)(listed:Array Bool)(i:Nat)(oi:Oper):Prop:=∀j oj,ops[j]?=some oj->j≠i->listed.getD j true=false->nG md ops j i=true\/oi.apart ops oj=true\/∃m,listed.getD m true=false/\nG md ops j m=true/\nG md ops m i=true
theorem H7{i:Nat}{oi:Oper}{v:Value}(hi:ops[i]?=some oi)(hsel:∀(j:Nat) (o:Oper) cs b,ops[j]?=some o->o.op≠.select cs b)
  (hQ:∀c a w,Q (.panic c) (a.put oi.dst v) w->Q (.panic c) a w) (hw:nG md ops k i=true) :
  ∀(fuel:Nat) (listed:Array Bool) (a:Act) (w:World),TK md ops listed i oi ->
   i∈Region.ready md ops listed->YieldsIf P ops S oi v a->S w ->
   eT P md ops Q S k fuel (listed.setIfInBounds i true) (a.put oi.dst v) w->eT P md ops Q S k (fuel+1) listed a w:=by
 intro fuel
 induction fuel with
 | zero=>
  intro listed a w _ hr hy hS H
  refine⟨fun h=>(by rw[h]at hr;cases hr),fun j hj=>?_⟩
  by_cases hji:j=i
  ·subst hji;exact hy.wpOp hi hS ⟨fun _=>hS,H⟩
  ·have:=ready_mono hj hji
   rw[H.1]at this
   cases this
 | succ fuel ih=>
  intro listed a w hfree hr hy hS H
  refine⟨fun h=>(by rw[h]at hr;cases hr),fun j hj=>?_⟩
  by_cases hji:j=i
  ·subst hji;exact hy.wpOp hi hS ⟨fun _=>hS,H⟩
  ·have hjk:j≠k:=fun e=>ET hw hr (e▸hj)
   have h1:=H.2 j (ready_mono hj hji)
   obtain⟨hjun,oj,hoj,hall⟩:=mem_ready.1 hj
   have hun:=(mem_ready.1 hr).1
   have hap:oi.apart ops oj=true:=by
    rcases hfree j oj hoj hji hjun with h'|h'|⟨m,h',h'',_⟩
    ·exact absurd hj (yJ h' hun)
    ·exact h'
    ·exact absurd hj (yJ h'' h')
   have h2:=wpOp_putIf hoj hap (fun cs b=>hsel i oi cs b hi) (fun cs b=>hsel j oj cs b hoj) hQ hy h1
   have hfree':TK md ops (listed.setIfInBounds j true) i oi:=fun m om hm hmi hmu=>by
    have hmu':listed.getD m true=false:=by
     by_cases hjm:j=m
     ·subst hjm;exact hjun
     ·rw[getD_set_ne true hjm]at hmu;exact hmu
    rcases hfree m om hm hmi hmu' with h'|h'|⟨n,h',h'',h3⟩
    ·exact .inl h'
    ·exact .inr (.inl h')
    ·refine .inr (.inr ⟨n,?_,h'',h3⟩)
     by_cases hjn:j=n
     ·subst hjn;exact absurd hj (yJ h3 hun)
     ·rw[getD_set_ne true hjn];exact h'
   refine wpOp_mono (fun a' w' h3=>⟨fun _=>h3.2.1 hjk,ih (listed.setIfInBounds j true) a' w' hfree' (ready_mono hr (Ne.symm hji)) h3.1 (h3.2.1 hjk) ?_⟩) h2
   rw[Array.setIfInBounds_comm _ _ hji]
   exact h3.2.2
def R6(md:Region.Mode)(ops:Array Oper)(listed:Array Bool)(i:Nat):Bool:=match ops[i]? with
 | none=>false
 | some oi=>(List.range ops.size).all fun j=>decide (j=i)||listed.getD j true||(match ops[j]? with
  | none=>true
  | some oj=>nG md ops j i||oi.apart ops oj||(List.range ops.size).any fun m=>!(listed.getD m true)&&nG md ops j m&&nG md ops m i)
theorem NL{listed:Array Bool}{i:Nat}{oi:Oper}(hi:ops[i]?=some oi)(h:R6 md ops listed i=true):TK md ops listed i oi:=by
 intro j oj hj hji hu
 unfold R6 at h
 rw[hi]at h
 simp only[List.all_eq_true,List.mem_range]at h
 have h1:=h j (Z5.1 hj).1
 rw[hj]at h1
 simp only[Bool.or_eq_true,decide_eq_true_eq,List.any_eq_true,Bool.and_eq_true,Bool.not_eq_true']at h1
 rcases h1 with(h1|h1)|(h1|h1)|⟨m,_,⟨h2,h3⟩,h4⟩
 ·exact absurd h1 hji
 ·rw[hu]at h1;cases h1
 ·exact .inl h1
 ·exact .inr (.inl h1)
 ·exact .inr (.inr ⟨m,h2,h3,h4⟩)
theorem mO{i n:Nat}{oi:Oper}{fuel:Nat}{listed:Array Bool}{a:Act}{w:World}(v:Value)(hi:ops[i]?=some oi)(hd:oi.dst=some n)
  (hs:Region.noSelect ops=true) (hf:R6 md ops listed i=true) (hr:(Region.ready md ops listed).contains i=true) (hw:nG md ops k i=true)
  (hQ:∀c a w,Q (.panic c) (a.put oi.dst v) w->Q (.panic c) a w) (hgd:oi.guard=none) (hy:∀w',S w'->(execOp a.eval oi).run P w'=.ok (.value v) w') (hS:S w)
  (h:eT P md ops Q S k fuel (listed.setIfInBounds i true) (a.put (some n) v) w):eT P md ops Q S k (fuel+1) listed a w:=
 H7 hi (Region.noSelect_spec hs) hQ hw fuel listed a w (NL hi hf) (by simpa using hr) (Or.inl ⟨by simp[Region.wanted,hgd],hy⟩) hS (by rw[hd];exact h)
theorem lI{i j m:Nat}{o o' o'':Oper}{fuel:Nat}{listed:Array Bool}{a:Act}{w:World}(hr:Region.ready md ops listed=[i,j,m])(ho:ops[i]?=some o)(ho':ops[j]?=some o')(ho'':ops[m]?=some o'')
  (h:∀K':Act->World->Prop,Shut (∀a w,(i≠k->S w)->eT P md ops Q S k fuel (listed.setIfInBounds i true) a w->K' a w)->if Region.wanted o (yielded ops a.tmps)=true then Oper.wp P o a w K' Q else K' (a.put o.dst undef) w)
  (h':∀K':Act->World->Prop,Shut (∀a w,(j≠k->S w)->eT P md ops Q S k fuel (listed.setIfInBounds j true) a w->K' a w)->if Region.wanted o' (yielded ops a.tmps)=true then Oper.wp P o' a w K' Q else K' (a.put o'.dst undef) w)
  (h'':∀K':Act->World->Prop,Shut (∀a w,(m≠k->S w)->eT P md ops Q S k fuel (listed.setIfInBounds m true) a w->K' a w)->if Region.wanted o'' (yielded ops a.tmps)=true then Oper.wp P o'' a w K' Q else K' (a.put o''.dst undef) w):eT P md ops Q S k (fuel+1) listed a w:=by
 refine⟨fun h0=>(by rw[hr]at h0;cases h0),fun n hn=>?_⟩
 rw[hr]at hn
 rcases Z4.1 hn with rfl|hn
 ·exact wpOp_step ho (fun K' hK=>h K' (fun a w hS hW=>hK a w ⟨hS,hW⟩))
 rcases Z4.1 hn with rfl|hn
 ·exact wpOp_step ho' (fun K' hK=>h' K' (fun a w hS hW=>hK a w ⟨hS,hW⟩))
 ·obtain rfl:=List.mem_singleton.1 hn
  exact wpOp_step ho'' (fun K' hK=>h'' K' (fun a w hS hW=>hK a w ⟨hS,hW⟩))
end
structure WSu(w:World)(bw off:Nat)(x y:ByteArray)(w':World):Prop where
 c0:w'.cell? ⟨bw,off,none⟩=some (.string x)
 c1:w'.cell? ⟨bw,off+1,none⟩=some (.string y)
 bl:Below w.heap.size w w'
theorem WSu.step{w W w':World}{bw off:Nat}{x y:ByteArray}(h:WSu w bw off x y W)(hb:Below W.heap.size W w'):WSu w bw off x y w':=⟨(hb.cell (p:=⟨bw,off,none⟩) (Z6 W _ h.c0)).trans h.c0,(hb.cell (p:=⟨bw,off+1,none⟩) (Z6 W _ h.c1)).trans h.c1,h.bl.trans (hb.mono h.bl.size)⟩
theorem WSu.of{w w':World}{bw off:Nat}{x y:ByteArray}(h:w.cell? ⟨bw,off,none⟩=some (.string x))(h':w.cell? ⟨bw,off+1,none⟩=some (.string y))(hb:Below w.heap.size w w'):WSu w bw off x y w':=⟨(hb.cell (p:=⟨bw,off,none⟩) (Z6 w _ h)).trans h,(hb.cell (p:=⟨bw,off+1,none⟩) (Z6 w _ h')).trans h',hb⟩
theorem WSu.new{w W:World}{bw off:Nat}{x y:ByteArray}(h:WSu w bw off x y W):∃W1 bA,W.alloc xL=W1/\W.heap.size=bA/\W1.heap[bA]?=some xL/\w.heap.size<=bA/\(∀(g:Nat) (o:Obj),W.heap[g]?=some o->W1.heap[g]?=some o)/\WSu w bw off x y W1:=⟨_,_,rfl,rfl,aP W xL,h.bl.size,fun _ _ hg=>az ((Below.refl W.heap.size W).alloc af _) hg,h.step (ag.alloc af _)⟩
theorem Ja{w:World}{g g':Nat}{o:Obj}(h:w.heap[g']?=some o)(hne:g≠g')(v0 v1 v2 v3 v4 v5 v6 v7:Value):
  ((((((((w.setCell ⟨g,0,none⟩ v0).setCell ⟨g,1,none⟩ v1).setCell ⟨g,2,none⟩ v2).setCell ⟨g,3,none⟩ v3).setCell ⟨g,4,none⟩ v4).setCell ⟨g,5,none⟩ v5).setCell ⟨g,6,none⟩ v6).setCell ⟨g,7,none⟩ v7).heap[g']?=some o:=by
 iterate 8 (rw[Below.heap_setCell _ _ _ _ (fun e=>hne e.symm)])
 exact h
def Y4(p q:Option AB):eU:=match p with
 | none=>.error 3
 | some a=>match q with
  | none=>.error 3
  | some b=>.ok (isW (bQ (jv a b)))
def CY(ws:List (aa)):eU:=tZ ws fun a b=>dQ a fun x=>dQ b fun y=>.ok (isW (bQ (jv x y)))
theorem Tk{ws:List (aa)}(h:ws.length≠2)(f:aa->aa->eU):tZ ws f=.error 3:=by
 match ws,h with
 | [],_=>rfl
 | [_],_=>rfl
 | [_,_],h=>exact absurd rfl h
 | _::_::_::_,_=>rfl
theorem TL.two{w:World}{A:Option Addr}{n cap:Nat}{x y:ByteArray}(h:TL w (.slice A n cap) [x,y]):∃b off,A=some ⟨b,off,none⟩/\w.cell? ⟨b,off,none⟩=some (.string x)/\w.cell? ⟨b,off+1,none⟩=some (.string y):=by
 obtain⟨A',cap',e,_,hk⟩:=h
 simp only[Value.slice.injEq]at e
 obtain⟨rfl,_,rfl⟩:=e
 obtain⟨b,off,rfl,h1⟩:=hk 0 (by simp)
 obtain⟨b',off',e,h2⟩:=hk 1 (by simp)
 simp only[Option.some.injEq,Addr.mk.injEq,and_true]at e
 obtain⟨rfl,rfl⟩:=e
 exact⟨b,off,rfl,h1,h2⟩
theorem GD(d:Nat)(v:Value)(xs:List ByteArray)(w:World)(hX:TL w v xs)(hl:fO (tls xs)<=3000)(hE:Env w):
  Calls prog 25 #[.pointer (some ⟨d,0,none⟩),v] w fun e w'=>kM (CY (tls xs)) e/\Below w.heap.size w w':=by
 by_cases h1:xs.length=2
 ·obtain⟨x,y,rfl⟩:∃x y,xs=[x,y]:=by
   match xs,h1 with
   | [x,y],_=>exact⟨x,y,rfl⟩
  have hx:=kZ hl x (by simp)
  have hy:=kZ hl y (by simp)
  have hX0:=hX
  obtain⟨A,cap,rfl,hcp,-⟩:=hX
  obtain⟨bw,off,rfl,c0,c1⟩:=hX0.two
  have HC0:=Box.m c0
  have HC1:=Box.m c1
  have HN:=Box.m (jl (some ⟨bw,off,none⟩) 2 cap w)
  have HP:Box (∀w',Below w.heap.size w w'->Calls prog 47 #[.string x] w' fun e w''=>BH (bM x.data.toList) e/\Below w'.heap.size w' w''):=⟨fun w' hb=>wH x w' hx (hE.below hb)⟩
  have HQ:Box (∀w',Below w.heap.size w w'->Calls prog 47 #[.string y] w' fun e w''=>BH (bM y.data.toList) e/\Below w'.heap.size w' w''):=⟨fun w' hb=>wH y w' hy (hE.below hb)⟩
  obtain⟨R,HR⟩:∃R,Box (CY (tls [x,y])=R):=⟨_,⟨rfl⟩⟩
  rw[HR.o]
  have HR1:Box (R=Y4 (bM x.data.toList) (bM y.data.toList)):=⟨by
   rw[<-HR.o]
   show dQ x.data.toList _=_
   unfold dQ Y4
   rfl⟩
  have HE:=Box.m hE
  clear hX0 hl hE h1 c0 c1 HR
  obtain⟨O,HO⟩:∃O,Box (bM x.data.toList=O):=⟨_,⟨rfl⟩⟩
  obtain⟨O2,HO2⟩:∃O,Box (bM y.data.toList=O):=⟨_,⟨rfl⟩⟩
  have HR3:Box (R=Y4 O O2):=⟨by rw[HR1.o,HO.o,HO2.o]⟩
  rw[HO.o]at HP
  rw[HO2.o]at HQ
  have HSa:Box (∀a,O=some a->(AV.of a).Small 3000):=⟨fun a ha=>pR (mX _ a (HO.o.trans ha)) (by rw[ae];exact hx)⟩
  have HSb:Box (∀b,O2=some b->(AV.of b).Small 3000):=⟨fun b hb=>pR (mX _ b (HO2.o.trans hb)) (by rw[ae];exact hy)⟩
  clear HR1 HO HO2
  go_enter func25,ntmps25
  go_wp2_with fail
  refine HN.o.mono ?_
  rintro e w1 ⟨rfl,hw1⟩
  obtain rfl:=hw1.symm
  go_wp2_with fail
  refine fC 11 (WSu w bw off x y) (by kernel_rfl) ?_
  obtain⟨wD,eD,hS⟩:∃wD,w.drew=wD/\WSu w bw off x y wD:=⟨_,rfl,WSu.of HC0.o HC1.o ag.drew⟩
  rw[eD]
  clear eD
  refine mO (i:=0) (n:=9) (.slice (some ⟨bw,off,none⟩) 2 cap) rfl rfl (by kernel_rfl) (by kernel_rfl) (by kernel_rfl) (by kernel_rfl) (fun _ _ _ h=>h) rfl (fun w' hS'=>?_) hS ?_
  ·clear hS' hS
   go_simp<;>with_reducible rfl
  simp only[Act.put,aH,aG,aI]
  refine mO (i:=1) (n:=10) (.pointer (some ⟨bw,off,none⟩)) rfl rfl (by kernel_rfl) (by kernel_rfl) (by kernel_rfl) (by kernel_rfl) (fun _ _ _ h=>h) rfl (fun w' hS'=>?_) hS ?_
  ·clear hS' hS
   go_simp<;>with_reducible rfl
  simp only[Act.put,aH,aG,aI]
  refine mO (i:=2) (n:=11) (.string x) rfl rfl (by kernel_rfl) (by kernel_rfl) (by kernel_rfl) (by kernel_rfl) (fun _ _ _ h=>h) rfl (fun w' hS'=>?_) hS ?_
  ·have l0:=hS'.c0
   clear hS' hS
   go_simp<;>with_reducible rfl
  simp only[Act.put,aH,aG,aI]
  refine mO (i:=4) (n:=13) (.slice (some ⟨bw,off,none⟩) 2 cap) rfl rfl (by kernel_rfl) (by kernel_rfl) (by kernel_rfl) (by kernel_rfl) (fun _ _ _ h=>h) rfl (fun w' hS'=>?_) hS ?_
  ·clear hS' hS
   go_simp<;>with_reducible rfl
  simp only[Act.put,aH,aG,aI]
  refine mO (i:=5) (n:=14) (.pointer (some ⟨bw,off+1,none⟩)) rfl rfl (by kernel_rfl) (by kernel_rfl) (by kernel_rfl) (by kernel_rfl) (fun _ _ _ h=>h) rfl (fun w' hS'=>?_) hS ?_
  ·clear hS' hS
   go_simp<;>with_reducible rfl
  simp only[Act.put,aH,aG,aI]
  refine mO (i:=6) (n:=15) (.string y) rfl rfl (by kernel_rfl) (by kernel_rfl) (by kernel_rfl) (by kernel_rfl) (fun _ _ _ h=>h) rfl (fun w' hS'=>?_) hS ?_
  ·have l0:=hS'.c1
   clear hS' hS
   go_simp<;>with_reducible rfl
  simp only[Act.put,aH,aG,aI]
  cases O with
  | none=>
   have HR2:Box (R=.error 3):=⟨HR3.o⟩
   clear HR3 HQ
   refine lI (i:=3) (j:=8) (m:=9) (by kernel_rfl) rfl rfl rfl (fun K' hK=>?_) (fun K' hK=>?_) (fun K' hK=>?_)
   ·rw[if_pos (by rfl)]
    go_wp2_with fail
    refine(HP.o _ hS.bl).mono ?_
    rintro e w5 ⟨he,hb5⟩
    have he:e=dP 3:=he
    subst he
    exact⟨rfl,by rw[HR2.o];rfl,(hS.step hb5).bl⟩
   ·rw[if_pos (by rfl)]
    go_wp2
    refine hK.out _ _ (fun _=>hS.step (ag.alloc af _)) ?_
    clear hK
    obtain⟨W1,bA,eW,eb,hA,hAl,hk,hS⟩:=hS.new
    rw[eW,eb]
    clear eW eb hk
    refine bq (i:=3) (j:=9) (by kernel_rfl) rfl rfl (fun K' hK=>?_) (fun K' hK=>?_)
    ·rw[if_pos (by rfl)]
     go_wp2_with fail
     refine(HP.o _ hS.bl).mono ?_
     rintro e w5 ⟨he,hb5⟩
     have he:e=dP 3:=he
     subst he
     exact⟨rfl,by rw[HR2.o];rfl,(hS.step hb5).bl⟩
    ·rw[if_pos (by rfl)]
     go_wp2
     refine hK.out _ _ (fun _=>hS.step (ag.alloc af _)) ?_
     clear hK
     obtain⟨W2,bB,eW,eb,hB,hBl,hk,hS⟩:=hS.new
     have hne:bA≠bB:=fun e=>by rw[<-eb]at e;exact absurd (Z5.1 hA).1 (by omega)
     replace hA:=hk _ _ hA
     rw[eW,eb]
     clear eW eb hk
     refine ai (i:=3) (by kernel_rfl) rfl (fun K' hK=>?_)
     rw[if_pos (by rfl)]
     go_wp2_with fail
     refine(HP.o _ hS.bl).mono ?_
     rintro e w5 ⟨he,hb5⟩
     have he:e=dP 3:=he
     subst he
     exact⟨rfl,by rw[HR2.o];rfl,(hS.step hb5).bl⟩
   ·rw[if_pos (by rfl)]
    go_wp2
    refine hK.out _ _ (fun _=>hS.step (ag.alloc af _)) ?_
    clear hK
    obtain⟨W2,bB,eW,eb,hB,hBl,hk,hS⟩:=hS.new
    rw[eW,eb]
    clear eW eb hk
    refine bq (i:=3) (j:=8) (by kernel_rfl) rfl rfl (fun K' hK=>?_) (fun K' hK=>?_)
    ·rw[if_pos (by rfl)]
     go_wp2_with fail
     refine(HP.o _ hS.bl).mono ?_
     rintro e w5 ⟨he,hb5⟩
     have he:e=dP 3:=he
     subst he
     exact⟨rfl,by rw[HR2.o];rfl,(hS.step hb5).bl⟩
    ·rw[if_pos (by rfl)]
     go_wp2
     refine hK.out _ _ (fun _=>hS.step (ag.alloc af _)) ?_
     clear hK
     obtain⟨W1,bA,eW,eb,hA,hAl,hk,hS⟩:=hS.new
     have hne:bA≠bB:=fun e=>by rw[<-eb]at e;exact absurd (Z5.1 hB).1 (by omega)
     replace hB:=hk _ _ hB
     rw[eW,eb]
     clear eW eb hk
     refine ai (i:=3) (by kernel_rfl) rfl (fun K' hK=>?_)
     rw[if_pos (by rfl)]
     go_wp2_with fail
     refine(HP.o _ hS.bl).mono ?_
     rintro e w5 ⟨he,hb5⟩
     have he:e=dP 3:=he
     subst he
     exact⟨rfl,by rw[HR2.o];rfl,(hS.step hb5).bl⟩
  | some a=>
   obtain⟨av,HAV⟩:∃av,Box (AV.of a=av):=⟨_,⟨rfl⟩⟩
   have HAb:Box (av.ab=a):=⟨by rw[<-HAV.o,nS]⟩
   have HP':Box (∀w',Below w.heap.size w w'->Calls prog 47 #[.string x] w' fun e w''=>e=.returned av.val/\Below w'.heap.size w' w''):=⟨fun w' hb=>(HP.o w' hb).mono (by rintro e w'' ⟨h,hb'⟩;rw[<-HAV.o];exact⟨h.1,hb'⟩)⟩
   clear HP
   have HP:=HP'
   clear HP'
   cases O2 with
   | none=>
    have HR2:Box (R=.error 3):=⟨HR3.o⟩
    clear HR3 HAV HAb
    obtain⟨x0,x1,x2,x3,x4,x5,x6,x7⟩:=av
    refine lI (i:=3) (j:=8) (m:=9) (by kernel_rfl) rfl rfl rfl (fun K' hK=>?_) (fun K' hK=>?_) (fun K' hK=>?_)
    ·rw[if_pos (by rfl)]
     go_wp2_with (go_at_call 47;refine(HP.o _ hS.bl).mono ?_;rintro e w5 ⟨he,hb5⟩;obtain rfl:e=.returned (.agg #[.string x0,.bool x1,.string x2,.string x3,.bool x4,.string x5,.bool x6,.string x7]):=he)
     have hS5:=hS.step hb5
     refine hK.out _ _ (fun _=>hS5) ?_
     clear hK hS
     have hS:=hS5
     clear hS5
     clear hb5
     refine lI (i:=7) (j:=8) (m:=9) (by kernel_rfl) rfl rfl rfl (fun K' hK=>?_) (fun K' hK=>?_) (fun K' hK=>?_)
     ·rw[if_pos (by rfl)]
      go_wp2_with fail
      refine(HQ.o _ hS.bl).mono ?_
      rintro e w5 ⟨he,hb5⟩
      have he:e=dP 3:=he
      subst he
      exact⟨rfl,by rw[HR2.o];rfl,(hS.step hb5).bl⟩
     ·rw[if_pos (by rfl)]
      go_wp2
      refine hK.out _ _ (fun _=>hS.step (ag.alloc af _)) ?_
      clear hK
      obtain⟨W1,bA,eW,eb,hA,hAl,hk,hS⟩:=hS.new
      rw[eW,eb]
      clear eW eb hk
      refine bq (i:=7) (j:=9) (by kernel_rfl) rfl rfl (fun K' hK=>?_) (fun K' hK=>?_)
      ·rw[if_pos (by rfl)]
       go_wp2_with fail
       refine(HQ.o _ hS.bl).mono ?_
       rintro e w5 ⟨he,hb5⟩
       have he:e=dP 3:=he
       subst he
       exact⟨rfl,by rw[HR2.o];rfl,(hS.step hb5).bl⟩
      ·rw[if_pos (by rfl)]
       go_wp2
       refine hK.out _ _ (fun _=>hS.step (ag.alloc af _)) ?_
       clear hK
       obtain⟨W2,bB,eW,eb,hB,hBl,hk,hS⟩:=hS.new
       have hne:bA≠bB:=fun e=>by rw[<-eb]at e;exact absurd (Z5.1 hA).1 (by omega)
       replace hA:=hk _ _ hA
       rw[eW,eb]
       clear eW eb hk
       refine ai (i:=7) (by kernel_rfl) rfl (fun K' hK=>?_)
       rw[if_pos (by rfl)]
       go_wp2_with fail
       refine(HQ.o _ hS.bl).mono ?_
       rintro e w5 ⟨he,hb5⟩
       have he:e=dP 3:=he
       subst he
       exact⟨rfl,by rw[HR2.o];rfl,(hS.step hb5).bl⟩
     ·rw[if_pos (by rfl)]
      go_wp2
      refine hK.out _ _ (fun _=>hS.step (ag.alloc af _)) ?_
      clear hK
      obtain⟨W2,bB,eW,eb,hB,hBl,hk,hS⟩:=hS.new
      rw[eW,eb]
      clear eW eb hk
      refine bq (i:=7) (j:=8) (by kernel_rfl) rfl rfl (fun K' hK=>?_) (fun K' hK=>?_)
      ·rw[if_pos (by rfl)]
       go_wp2_with fail
       refine(HQ.o _ hS.bl).mono ?_
       rintro e w5 ⟨he,hb5⟩
       have he:e=dP 3:=he
       subst he
       exact⟨rfl,by rw[HR2.o];rfl,(hS.step hb5).bl⟩
      ·rw[if_pos (by rfl)]
       go_wp2
       refine hK.out _ _ (fun _=>hS.step (ag.alloc af _)) ?_
       clear hK
       obtain⟨W1,bA,eW,eb,hA,hAl,hk,hS⟩:=hS.new
       have hne:bA≠bB:=fun e=>by rw[<-eb]at e;exact absurd (Z5.1 hB).1 (by omega)
       replace hB:=hk _ _ hB
       rw[eW,eb]
       clear eW eb hk
       refine ai (i:=7) (by kernel_rfl) rfl (fun K' hK=>?_)
       rw[if_pos (by rfl)]
       go_wp2_with fail
       refine(HQ.o _ hS.bl).mono ?_
       rintro e w5 ⟨he,hb5⟩
       have he:e=dP 3:=he
       subst he
       exact⟨rfl,by rw[HR2.o];rfl,(hS.step hb5).bl⟩
    ·rw[if_pos (by rfl)]
     go_wp2
     refine hK.out _ _ (fun _=>hS.step (ag.alloc af _)) ?_
     clear hK
     obtain⟨W1,bA,eW,eb,hA,hAl,hk,hS⟩:=hS.new
     rw[eW,eb]
     clear eW eb hk
     refine bq (i:=3) (j:=9) (by kernel_rfl) rfl rfl (fun K' hK=>?_) (fun K' hK=>?_)
     ·rw[if_pos (by rfl)]
      go_wp2_with (go_at_call 47;refine(HP.o _ hS.bl).mono ?_;rintro e w5 ⟨he,hb5⟩;obtain rfl:e=.returned (.agg #[.string x0,.bool x1,.string x2,.string x3,.bool x4,.string x5,.bool x6,.string x7]):=he)
      have hS5:=hS.step hb5
      refine hK.out _ _ (fun _=>hS5) ?_
      clear hK hS
      have hS:=hS5
      clear hS5
      replace hA:=az hb5 hA
      clear hb5
      refine bq (i:=7) (j:=9) (by kernel_rfl) rfl rfl (fun K' hK=>?_) (fun K' hK=>?_)
      ·rw[if_pos (by rfl)]
       go_wp2_with fail
       refine(HQ.o _ hS.bl).mono ?_
       rintro e w5 ⟨he,hb5⟩
       have he:e=dP 3:=he
       subst he
       exact⟨rfl,by rw[HR2.o];rfl,(hS.step hb5).bl⟩
      ·rw[if_pos (by rfl)]
       go_wp2
       refine hK.out _ _ (fun _=>hS.step (ag.alloc af _)) ?_
       clear hK
       obtain⟨W2,bB,eW,eb,hB,hBl,hk,hS⟩:=hS.new
       have hne:bA≠bB:=fun e=>by rw[<-eb]at e;exact absurd (Z5.1 hA).1 (by omega)
       replace hA:=hk _ _ hA
       rw[eW,eb]
       clear eW eb hk
       refine ai (i:=7) (by kernel_rfl) rfl (fun K' hK=>?_)
       rw[if_pos (by rfl)]
       go_wp2_with fail
       refine(HQ.o _ hS.bl).mono ?_
       rintro e w5 ⟨he,hb5⟩
       have he:e=dP 3:=he
       subst he
       exact⟨rfl,by rw[HR2.o];rfl,(hS.step hb5).bl⟩
     ·rw[if_pos (by rfl)]
      go_wp2
      refine hK.out _ _ (fun _=>hS.step (ag.alloc af _)) ?_
      clear hK
      obtain⟨W2,bB,eW,eb,hB,hBl,hk,hS⟩:=hS.new
      have hne:bA≠bB:=fun e=>by rw[<-eb]at e;exact absurd (Z5.1 hA).1 (by omega)
      replace hA:=hk _ _ hA
      rw[eW,eb]
      clear eW eb hk
      refine ai (i:=3) (by kernel_rfl) rfl (fun K' hK=>?_)
      rw[if_pos (by rfl)]
      go_wp2_with (go_at_call 47;refine(HP.o _ hS.bl).mono ?_;rintro e w5 ⟨he,hb5⟩;obtain rfl:e=.returned (.agg #[.string x0,.bool x1,.string x2,.string x3,.bool x4,.string x5,.bool x6,.string x7]):=he)
      have hS5:=hS.step hb5
      refine hK.out _ _ (fun _=>hS5) ?_
      clear hK hS
      have hS:=hS5
      clear hS5
      replace hA:=az hb5 hA
      replace hB:=az hb5 hB
      clear hb5
      refine ai (i:=7) (by kernel_rfl) rfl (fun K' hK=>?_)
      rw[if_pos (by rfl)]
      go_wp2_with fail
      refine(HQ.o _ hS.bl).mono ?_
      rintro e w5 ⟨he,hb5⟩
      have he:e=dP 3:=he
      subst he
      exact⟨rfl,by rw[HR2.o];rfl,(hS.step hb5).bl⟩
    ·rw[if_pos (by rfl)]
     go_wp2
     refine hK.out _ _ (fun _=>hS.step (ag.alloc af _)) ?_
     clear hK
     obtain⟨W2,bB,eW,eb,hB,hBl,hk,hS⟩:=hS.new
     rw[eW,eb]
     clear eW eb hk
     refine bq (i:=3) (j:=8) (by kernel_rfl) rfl rfl (fun K' hK=>?_) (fun K' hK=>?_)
     ·rw[if_pos (by rfl)]
      go_wp2_with (go_at_call 47;refine(HP.o _ hS.bl).mono ?_;rintro e w5 ⟨he,hb5⟩;obtain rfl:e=.returned (.agg #[.string x0,.bool x1,.string x2,.string x3,.bool x4,.string x5,.bool x6,.string x7]):=he)
      have hS5:=hS.step hb5
      refine hK.out _ _ (fun _=>hS5) ?_
      clear hK hS
      have hS:=hS5
      clear hS5
      replace hB:=az hb5 hB
      clear hb5
      refine bq (i:=7) (j:=8) (by kernel_rfl) rfl rfl (fun K' hK=>?_) (fun K' hK=>?_)
      ·rw[if_pos (by rfl)]
       go_wp2_with fail
       refine(HQ.o _ hS.bl).mono ?_
       rintro e w5 ⟨he,hb5⟩
       have he:e=dP 3:=he
       subst he
       exact⟨rfl,by rw[HR2.o];rfl,(hS.step hb5).bl⟩
      ·rw[if_pos (by rfl)]
       go_wp2
       refine hK.out _ _ (fun _=>hS.step (ag.alloc af _)) ?_
       clear hK
       obtain⟨W1,bA,eW,eb,hA,hAl,hk,hS⟩:=hS.new
       have hne:bA≠bB:=fun e=>by rw[<-eb]at e;exact absurd (Z5.1 hB).1 (by omega)
       replace hB:=hk _ _ hB
       rw[eW,eb]
       clear eW eb hk
       refine ai (i:=7) (by kernel_rfl) rfl (fun K' hK=>?_)
       rw[if_pos (by rfl)]
       go_wp2_with fail
       refine(HQ.o _ hS.bl).mono ?_
       rintro e w5 ⟨he,hb5⟩
       have he:e=dP 3:=he
       subst he
       exact⟨rfl,by rw[HR2.o];rfl,(hS.step hb5).bl⟩
     ·rw[if_pos (by rfl)]
      go_wp2
      refine hK.out _ _ (fun _=>hS.step (ag.alloc af _)) ?_
      clear hK
      obtain⟨W1,bA,eW,eb,hA,hAl,hk,hS⟩:=hS.new
      have hne:bA≠bB:=fun e=>by rw[<-eb]at e;exact absurd (Z5.1 hB).1 (by omega)
      replace hB:=hk _ _ hB
      rw[eW,eb]
      clear eW eb hk
      refine ai (i:=3) (by kernel_rfl) rfl (fun K' hK=>?_)
      rw[if_pos (by rfl)]
      go_wp2_with (go_at_call 47;refine(HP.o _ hS.bl).mono ?_;rintro e w5 ⟨he,hb5⟩;obtain rfl:e=.returned (.agg #[.string x0,.bool x1,.string x2,.string x3,.bool x4,.string x5,.bool x6,.string x7]):=he)
      have hS5:=hS.step hb5
      refine hK.out _ _ (fun _=>hS5) ?_
      clear hK hS
      have hS:=hS5
      clear hS5
      replace hA:=az hb5 hA
      replace hB:=az hb5 hB
      clear hb5
      refine ai (i:=7) (by kernel_rfl) rfl (fun K' hK=>?_)
      rw[if_pos (by rfl)]
      go_wp2_with fail
      refine(HQ.o _ hS.bl).mono ?_
      rintro e w5 ⟨he,hb5⟩
      have he:e=dP 3:=he
      subst he
      exact⟨rfl,by rw[HR2.o];rfl,(hS.step hb5).bl⟩
   | some b=>
    obtain⟨bv,HBV⟩:∃bv,Box (AV.of b=bv):=⟨_,⟨rfl⟩⟩
    have HBb:Box (bv.ab=b):=⟨by rw[<-HBV.o,nS]⟩
    have HQ':Box (∀w',Below w.heap.size w w'->Calls prog 47 #[.string y] w' fun e w''=>e=.returned bv.val/\Below w'.heap.size w' w''):=⟨fun w' hb=>(HQ.o w' hb).mono (by rintro e w'' ⟨h,hb'⟩;rw[<-HBV.o];exact⟨h.1,hb'⟩)⟩
    have HR2:Box (R=.ok (isW (bQ (jv av.ab bv.ab)))):=⟨by rw[HR3.o,HAb.o,HBb.o];rfl⟩
    have HSm:Box (av.Small 3000/\bv.Small 3000):=⟨by
     rw[<-HAV.o,<-HBV.o]
     exact⟨HSa.o a rfl,HSb.o b rfl⟩⟩
    have hsr:=nV HSm.o.1 HSm.o.2
    have HRs:Box (∀w',Below w.heap.size w w'->Calls prog 58 #[av.val,bv.val] w' fun e w''=>e=.returned (qw av bv).val/\Below w'.heap.size w' w''):=⟨fun w' hb=>Bo av bv w' (GL HSm.o.1.pa (by decide)) (GL HSm.o.2.pa (by decide)) (HE.o.below hb).gl.mx⟩
    have HWl:Box ((iG (qw av bv)).data.toList=bQ (jv av.ab bv.ab)):=⟨by rw[<-qW];rfl⟩
    have HWr:Box (∀w',Calls prog 42 #[(qw av bv).val] w' fun e w''=>e=.returned (.string (iG (qw av bv)))/\Below w'.heap.size w' w''):=⟨fun w'=>rC _ w' ⟨GL hsr.sc (by decide),GL hsr.au (by decide),GL hsr.pa (by decide),GL hsr.qu (by decide),GL hsr.fr (by decide)⟩⟩
    have hws:(iG (qw av bv)).size<=10000000:=GL (j3 _ _ hsr) (by decide)
    clear HQ hsr HSm
    have HQ:=HQ'
    clear HQ' HBV HAV HBb HAb HR3
    generalize jv av.ab bv.ab=RA at HR2 HWl
    generalize iG (qw av bv)=WB at HWr HWl hws
    generalize qw av bv=zv at HRs HWr
    obtain⟨x0,x1,x2,x3,x4,x5,x6,x7⟩:=av
    obtain⟨y0,y1,y2,y3,y4,y5,y6,y7⟩:=bv
    obtain⟨z0,z1,z2,z3,z4,z5,z6,z7⟩:=zv
    revert hS;revert wD
    apply via
    case tree=>
     intro T wD hS
     refine lI (i:=3) (j:=8) (m:=9) (by kernel_rfl) rfl rfl rfl (fun K' hK=>?_) (fun K' hK=>?_) (fun K' hK=>?_)
     ·rw[if_pos (by rfl)]
      go_wp2_with (go_at_call 47;refine(HP.o _ hS.bl).mono ?_;rintro e w5 ⟨he,hb5⟩;obtain rfl:e=.returned (.agg #[.string x0,.bool x1,.string x2,.string x3,.bool x4,.string x5,.bool x6,.string x7]):=he)
      have hS5:=hS.step hb5
      refine hK.out _ _ (fun _=>hS5) ?_
      clear hK hS
      have hS:=hS5
      clear hS5
      clear hb5
      refine lI (i:=7) (j:=8) (m:=9) (by kernel_rfl) rfl rfl rfl (fun K' hK=>?_) (fun K' hK=>?_) (fun K' hK=>?_)
      ·rw[if_pos (by rfl)]
       go_wp2_with (go_at_call 47;refine(HQ.o _ hS.bl).mono ?_;rintro e w5 ⟨he,hb5⟩;obtain rfl:e=.returned (.agg #[.string y0,.bool y1,.string y2,.string y3,.bool y4,.string y5,.bool y6,.string y7]):=he)
       have hS5:=hS.step hb5
       refine hK.out _ _ (fun _=>hS5) ?_
       clear hK hS
       have hS:=hS5
       clear hS5
       clear hb5
       refine bq (i:=8) (j:=9) (by kernel_rfl) rfl rfl (fun K' hK=>?_) (fun K' hK=>?_)
       ·rw[if_pos (by rfl)]
        go_wp2
        refine hK.out _ _ (fun _=>hS.step (ag.alloc af _)) ?_
        clear hK
        obtain⟨W1,bA,eW,eb,hA,hAl,hk,hS⟩:=hS.new
        rw[eW,eb]
        clear eW eb hk
        refine ai (i:=9) (by kernel_rfl) rfl (fun K' hK=>?_)
        rw[if_pos (by rfl)]
        go_wp2
        refine hK.out _ _ (fun _=>hS.step (ag.alloc af _)) ?_
        clear hK
        obtain⟨W2,bB,eW,eb,hB,hBl,hk,hS⟩:=hS.new
        have hne:bA≠bB:=fun e=>by rw[<-eb]at e;exact absurd (Z5.1 hA).1 (by omega)
        replace hA:=hk _ _ hA
        rw[eW,eb]
        clear eW eb hk
        refine bH (listed':=#[true,true,true,true,true,true,true,true,true,true,false,false]) (by kernel_rfl) ?_
        revert hS;revert hne;revert hBl;revert hB;revert hAl;revert hA;revert bB;revert bA;revert W2
        exact T.o
       ·rw[if_pos (by rfl)]
        go_wp2
        refine hK.out _ _ (fun _=>hS.step (ag.alloc af _)) ?_
        clear hK
        obtain⟨W2,bB,eW,eb,hB,hBl,hk,hS⟩:=hS.new
        rw[eW,eb]
        clear eW eb hk
        refine ai (i:=8) (by kernel_rfl) rfl (fun K' hK=>?_)
        rw[if_pos (by rfl)]
        go_wp2
        refine hK.out _ _ (fun _=>hS.step (ag.alloc af _)) ?_
        clear hK
        obtain⟨W1,bA,eW,eb,hA,hAl,hk,hS⟩:=hS.new
        have hne:bA≠bB:=fun e=>by rw[<-eb]at e;exact absurd (Z5.1 hB).1 (by omega)
        replace hB:=hk _ _ hB
        rw[eW,eb]
        clear eW eb hk
        refine bH (listed':=#[true,true,true,true,true,true,true,true,true,true,false,false]) (by kernel_rfl) ?_
        revert hS;revert hne;revert hBl;revert hB;revert hAl;revert hA;revert bB;revert bA;revert W1
        exact T.o
      ·rw[if_pos (by rfl)]
       go_wp2
       refine hK.out _ _ (fun _=>hS.step (ag.alloc af _)) ?_
       clear hK
       obtain⟨W1,bA,eW,eb,hA,hAl,hk,hS⟩:=hS.new
       rw[eW,eb]
       clear eW eb hk
       refine bq (i:=7) (j:=9) (by kernel_rfl) rfl rfl (fun K' hK=>?_) (fun K' hK=>?_)
       ·rw[if_pos (by rfl)]
        go_wp2_with (go_at_call 47;refine(HQ.o _ hS.bl).mono ?_;rintro e w5 ⟨he,hb5⟩;obtain rfl:e=.returned (.agg #[.string y0,.bool y1,.string y2,.string y3,.bool y4,.string y5,.bool y6,.string y7]):=he)
        have hS5:=hS.step hb5
        refine hK.out _ _ (fun _=>hS5) ?_
        clear hK hS
        have hS:=hS5
        clear hS5
        replace hA:=az hb5 hA
        clear hb5
        refine ai (i:=9) (by kernel_rfl) rfl (fun K' hK=>?_)
        rw[if_pos (by rfl)]
        go_wp2
        refine hK.out _ _ (fun _=>hS.step (ag.alloc af _)) ?_
        clear hK
        obtain⟨W2,bB,eW,eb,hB,hBl,hk,hS⟩:=hS.new
        have hne:bA≠bB:=fun e=>by rw[<-eb]at e;exact absurd (Z5.1 hA).1 (by omega)
        replace hA:=hk _ _ hA
        rw[eW,eb]
        clear eW eb hk
        refine bH (listed':=#[true,true,true,true,true,true,true,true,true,true,false,false]) (by kernel_rfl) ?_
        revert hS;revert hne;revert hBl;revert hB;revert hAl;revert hA;revert bB;revert bA;revert W2
        exact T.o
       ·rw[if_pos (by rfl)]
        go_wp2
        refine hK.out _ _ (fun _=>hS.step (ag.alloc af _)) ?_
        clear hK
        obtain⟨W2,bB,eW,eb,hB,hBl,hk,hS⟩:=hS.new
        have hne:bA≠bB:=fun e=>by rw[<-eb]at e;exact absurd (Z5.1 hA).1 (by omega)
        replace hA:=hk _ _ hA
        rw[eW,eb]
        clear eW eb hk
        refine ai (i:=7) (by kernel_rfl) rfl (fun K' hK=>?_)
        rw[if_pos (by rfl)]
        go_wp2_with (go_at_call 47;refine(HQ.o _ hS.bl).mono ?_;rintro e w5 ⟨he,hb5⟩;obtain rfl:e=.returned (.agg #[.string y0,.bool y1,.string y2,.string y3,.bool y4,.string y5,.bool y6,.string y7]):=he)
        have hS5:=hS.step hb5
        refine hK.out _ _ (fun _=>hS5) ?_
        clear hK hS
        have hS:=hS5
        clear hS5
        replace hA:=az hb5 hA
        replace hB:=az hb5 hB
        clear hb5
        refine bH (listed':=#[true,true,true,true,true,true,true,true,true,true,false,false]) (by kernel_rfl) ?_
        revert hS;revert hne;revert hBl;revert hB;revert hAl;revert hA;revert bB;revert bA;revert w5
        exact T.o
      ·rw[if_pos (by rfl)]
       go_wp2
       refine hK.out _ _ (fun _=>hS.step (ag.alloc af _)) ?_
       clear hK
       obtain⟨W2,bB,eW,eb,hB,hBl,hk,hS⟩:=hS.new
       rw[eW,eb]
       clear eW eb hk
       refine bq (i:=7) (j:=8) (by kernel_rfl) rfl rfl (fun K' hK=>?_) (fun K' hK=>?_)
       ·rw[if_pos (by rfl)]
        go_wp2_with (go_at_call 47;refine(HQ.o _ hS.bl).mono ?_;rintro e w5 ⟨he,hb5⟩;obtain rfl:e=.returned (.agg #[.string y0,.bool y1,.string y2,.string y3,.bool y4,.string y5,.bool y6,.string y7]):=he)
        have hS5:=hS.step hb5
        refine hK.out _ _ (fun _=>hS5) ?_
        clear hK hS
        have hS:=hS5
        clear hS5
        replace hB:=az hb5 hB
        clear hb5
        refine ai (i:=8) (by kernel_rfl) rfl (fun K' hK=>?_)
        rw[if_pos (by rfl)]
        go_wp2
        refine hK.out _ _ (fun _=>hS.step (ag.alloc af _)) ?_
        clear hK
        obtain⟨W1,bA,eW,eb,hA,hAl,hk,hS⟩:=hS.new
        have hne:bA≠bB:=fun e=>by rw[<-eb]at e;exact absurd (Z5.1 hB).1 (by omega)
        replace hB:=hk _ _ hB
        rw[eW,eb]
        clear eW eb hk
        refine bH (listed':=#[true,true,true,true,true,true,true,true,true,true,false,false]) (by kernel_rfl) ?_
        revert hS;revert hne;revert hBl;revert hB;revert hAl;revert hA;revert bB;revert bA;revert W1
        exact T.o
       ·rw[if_pos (by rfl)]
        go_wp2
        refine hK.out _ _ (fun _=>hS.step (ag.alloc af _)) ?_
        clear hK
        obtain⟨W1,bA,eW,eb,hA,hAl,hk,hS⟩:=hS.new
        have hne:bA≠bB:=fun e=>by rw[<-eb]at e;exact absurd (Z5.1 hB).1 (by omega)
        replace hB:=hk _ _ hB
        rw[eW,eb]
        clear eW eb hk
        refine ai (i:=7) (by kernel_rfl) rfl (fun K' hK=>?_)
        rw[if_pos (by rfl)]
        go_wp2_with (go_at_call 47;refine(HQ.o _ hS.bl).mono ?_;rintro e w5 ⟨he,hb5⟩;obtain rfl:e=.returned (.agg #[.string y0,.bool y1,.string y2,.string y3,.bool y4,.string y5,.bool y6,.string y7]):=he)
        have hS5:=hS.step hb5
        refine hK.out _ _ (fun _=>hS5) ?_
        clear hK hS
        have hS:=hS5
        clear hS5
        replace hA:=az hb5 hA
        replace hB:=az hb5 hB
        clear hb5
        refine bH (listed':=#[true,true,true,true,true,true,true,true,true,true,false,false]) (by kernel_rfl) ?_
        revert hS;revert hne;revert hBl;revert hB;revert hAl;revert hA;revert bB;revert bA;revert w5
        exact T.o
     ·rw[if_pos (by rfl)]
      go_wp2
      refine hK.out _ _ (fun _=>hS.step (ag.alloc af _)) ?_
      clear hK
      obtain⟨W1,bA,eW,eb,hA,hAl,hk,hS⟩:=hS.new
      rw[eW,eb]
      clear eW eb hk
      refine bq (i:=3) (j:=9) (by kernel_rfl) rfl rfl (fun K' hK=>?_) (fun K' hK=>?_)
      ·rw[if_pos (by rfl)]
       go_wp2_with (go_at_call 47;refine(HP.o _ hS.bl).mono ?_;rintro e w5 ⟨he,hb5⟩;obtain rfl:e=.returned (.agg #[.string x0,.bool x1,.string x2,.string x3,.bool x4,.string x5,.bool x6,.string x7]):=he)
       have hS5:=hS.step hb5
       refine hK.out _ _ (fun _=>hS5) ?_
       clear hK hS
       have hS:=hS5
       clear hS5
       replace hA:=az hb5 hA
       clear hb5
       refine bq (i:=7) (j:=9) (by kernel_rfl) rfl rfl (fun K' hK=>?_) (fun K' hK=>?_)
       ·rw[if_pos (by rfl)]
        go_wp2_with (go_at_call 47;refine(HQ.o _ hS.bl).mono ?_;rintro e w5 ⟨he,hb5⟩;obtain rfl:e=.returned (.agg #[.string y0,.bool y1,.string y2,.string y3,.bool y4,.string y5,.bool y6,.string y7]):=he)
        have hS5:=hS.step hb5
        refine hK.out _ _ (fun _=>hS5) ?_
        clear hK hS
        have hS:=hS5
        clear hS5
        replace hA:=az hb5 hA
        clear hb5
        refine ai (i:=9) (by kernel_rfl) rfl (fun K' hK=>?_)
        rw[if_pos (by rfl)]
        go_wp2
        refine hK.out _ _ (fun _=>hS.step (ag.alloc af _)) ?_
        clear hK
        obtain⟨W2,bB,eW,eb,hB,hBl,hk,hS⟩:=hS.new
        have hne:bA≠bB:=fun e=>by rw[<-eb]at e;exact absurd (Z5.1 hA).1 (by omega)
        replace hA:=hk _ _ hA
        rw[eW,eb]
        clear eW eb hk
        refine bH (listed':=#[true,true,true,true,true,true,true,true,true,true,false,false]) (by kernel_rfl) ?_
        revert hS;revert hne;revert hBl;revert hB;revert hAl;revert hA;revert bB;revert bA;revert W2
        exact T.o
       ·rw[if_pos (by rfl)]
        go_wp2
        refine hK.out _ _ (fun _=>hS.step (ag.alloc af _)) ?_
        clear hK
        obtain⟨W2,bB,eW,eb,hB,hBl,hk,hS⟩:=hS.new
        have hne:bA≠bB:=fun e=>by rw[<-eb]at e;exact absurd (Z5.1 hA).1 (by omega)
        replace hA:=hk _ _ hA
        rw[eW,eb]
        clear eW eb hk
        refine ai (i:=7) (by kernel_rfl) rfl (fun K' hK=>?_)
        rw[if_pos (by rfl)]
        go_wp2_with (go_at_call 47;refine(HQ.o _ hS.bl).mono ?_;rintro e w5 ⟨he,hb5⟩;obtain rfl:e=.returned (.agg #[.string y0,.bool y1,.string y2,.string y3,.bool y4,.string y5,.bool y6,.string y7]):=he)
        have hS5:=hS.step hb5
        refine hK.out _ _ (fun _=>hS5) ?_
        clear hK hS
        have hS:=hS5
        clear hS5
        replace hA:=az hb5 hA
        replace hB:=az hb5 hB
        clear hb5
        refine bH (listed':=#[true,true,true,true,true,true,true,true,true,true,false,false]) (by kernel_rfl) ?_
        revert hS;revert hne;revert hBl;revert hB;revert hAl;revert hA;revert bB;revert bA;revert w5
        exact T.o
      ·rw[if_pos (by rfl)]
       go_wp2
       refine hK.out _ _ (fun _=>hS.step (ag.alloc af _)) ?_
       clear hK
       obtain⟨W2,bB,eW,eb,hB,hBl,hk,hS⟩:=hS.new
       have hne:bA≠bB:=fun e=>by rw[<-eb]at e;exact absurd (Z5.1 hA).1 (by omega)
       replace hA:=hk _ _ hA
       rw[eW,eb]
       clear eW eb hk
       refine ai (i:=3) (by kernel_rfl) rfl (fun K' hK=>?_)
       rw[if_pos (by rfl)]
       go_wp2_with (go_at_call 47;refine(HP.o _ hS.bl).mono ?_;rintro e w5 ⟨he,hb5⟩;obtain rfl:e=.returned (.agg #[.string x0,.bool x1,.string x2,.string x3,.bool x4,.string x5,.bool x6,.string x7]):=he)
       have hS5:=hS.step hb5
       refine hK.out _ _ (fun _=>hS5) ?_
       clear hK hS
       have hS:=hS5
       clear hS5
       replace hA:=az hb5 hA
       replace hB:=az hb5 hB
       clear hb5
       refine ai (i:=7) (by kernel_rfl) rfl (fun K' hK=>?_)
       rw[if_pos (by rfl)]
       go_wp2_with (go_at_call 47;refine(HQ.o _ hS.bl).mono ?_;rintro e w5 ⟨he,hb5⟩;obtain rfl:e=.returned (.agg #[.string y0,.bool y1,.string y2,.string y3,.bool y4,.string y5,.bool y6,.string y7]):=he)
       have hS5:=hS.step hb5
       refine hK.out _ _ (fun _=>hS5) ?_
       clear hK hS
       have hS:=hS5
       clear hS5
       replace hA:=az hb5 hA
       replace hB:=az hb5 hB
       clear hb5
       refine bH (listed':=#[true,true,true,true,true,true,true,true,true,true,false,false]) (by kernel_rfl) ?_
       revert hS;revert hne;revert hBl;revert hB;revert hAl;revert hA;revert bB;revert bA;revert w5
       exact T.o
     ·rw[if_pos (by rfl)]
      go_wp2
      refine hK.out _ _ (fun _=>hS.step (ag.alloc af _)) ?_
      clear hK
      obtain⟨W2,bB,eW,eb,hB,hBl,hk,hS⟩:=hS.new
      rw[eW,eb]
      clear eW eb hk
      refine bq (i:=3) (j:=8) (by kernel_rfl) rfl rfl (fun K' hK=>?_) (fun K' hK=>?_)
      ·rw[if_pos (by rfl)]
       go_wp2_with (go_at_call 47;refine(HP.o _ hS.bl).mono ?_;rintro e w5 ⟨he,hb5⟩;obtain rfl:e=.returned (.agg #[.string x0,.bool x1,.string x2,.string x3,.bool x4,.string x5,.bool x6,.string x7]):=he)
       have hS5:=hS.step hb5
       refine hK.out _ _ (fun _=>hS5) ?_
       clear hK hS
       have hS:=hS5
       clear hS5
       replace hB:=az hb5 hB
       clear hb5
       refine bq (i:=7) (j:=8) (by kernel_rfl) rfl rfl (fun K' hK=>?_) (fun K' hK=>?_)
       ·rw[if_pos (by rfl)]
        go_wp2_with (go_at_call 47;refine(HQ.o _ hS.bl).mono ?_;rintro e w5 ⟨he,hb5⟩;obtain rfl:e=.returned (.agg #[.string y0,.bool y1,.string y2,.string y3,.bool y4,.string y5,.bool y6,.string y7]):=he)
        have hS5:=hS.step hb5
        refine hK.out _ _ (fun _=>hS5) ?_
        clear hK hS
        have hS:=hS5
        clear hS5
        replace hB:=az hb5 hB
        clear hb5
        refine ai (i:=8) (by kernel_rfl) rfl (fun K' hK=>?_)
        rw[if_pos (by rfl)]
        go_wp2
        refine hK.out _ _ (fun _=>hS.step (ag.alloc af _)) ?_
        clear hK
        obtain⟨W1,bA,eW,eb,hA,hAl,hk,hS⟩:=hS.new
        have hne:bA≠bB:=fun e=>by rw[<-eb]at e;exact absurd (Z5.1 hB).1 (by omega)
        replace hB:=hk _ _ hB
        rw[eW,eb]
        clear eW eb hk
        refine bH (listed':=#[true,true,true,true,true,true,true,true,true,true,false,false]) (by kernel_rfl) ?_
        revert hS;revert hne;revert hBl;revert hB;revert hAl;revert hA;revert bB;revert bA;revert W1
        exact T.o
       ·rw[if_pos (by rfl)]
        go_wp2
        refine hK.out _ _ (fun _=>hS.step (ag.alloc af _)) ?_
        clear hK
        obtain⟨W1,bA,eW,eb,hA,hAl,hk,hS⟩:=hS.new
        have hne:bA≠bB:=fun e=>by rw[<-eb]at e;exact absurd (Z5.1 hB).1 (by omega)
        replace hB:=hk _ _ hB
        rw[eW,eb]
        clear eW eb hk
        refine ai (i:=7) (by kernel_rfl) rfl (fun K' hK=>?_)
        rw[if_pos (by rfl)]
        go_wp2_with (go_at_call 47;refine(HQ.o _ hS.bl).mono ?_;rintro e w5 ⟨he,hb5⟩;obtain rfl:e=.returned (.agg #[.string y0,.bool y1,.string y2,.string y3,.bool y4,.string y5,.bool y6,.string y7]):=he)
        have hS5:=hS.step hb5
        refine hK.out _ _ (fun _=>hS5) ?_
        clear hK hS
        have hS:=hS5
        clear hS5
        replace hA:=az hb5 hA
        replace hB:=az hb5 hB
        clear hb5
        refine bH (listed':=#[true,true,true,true,true,true,true,true,true,true,false,false]) (by kernel_rfl) ?_
        revert hS;revert hne;revert hBl;revert hB;revert hAl;revert hA;revert bB;revert bA;revert w5
        exact T.o
      ·rw[if_pos (by rfl)]
       go_wp2
       refine hK.out _ _ (fun _=>hS.step (ag.alloc af _)) ?_
       clear hK
       obtain⟨W1,bA,eW,eb,hA,hAl,hk,hS⟩:=hS.new
       have hne:bA≠bB:=fun e=>by rw[<-eb]at e;exact absurd (Z5.1 hB).1 (by omega)
       replace hB:=hk _ _ hB
       rw[eW,eb]
       clear eW eb hk
       refine ai (i:=3) (by kernel_rfl) rfl (fun K' hK=>?_)
       rw[if_pos (by rfl)]
       go_wp2_with (go_at_call 47;refine(HP.o _ hS.bl).mono ?_;rintro e w5 ⟨he,hb5⟩;obtain rfl:e=.returned (.agg #[.string x0,.bool x1,.string x2,.string x3,.bool x4,.string x5,.bool x6,.string x7]):=he)
       have hS5:=hS.step hb5
       refine hK.out _ _ (fun _=>hS5) ?_
       clear hK hS
       have hS:=hS5
       clear hS5
       replace hA:=az hb5 hA
       replace hB:=az hb5 hB
       clear hb5
       refine ai (i:=7) (by kernel_rfl) rfl (fun K' hK=>?_)
       rw[if_pos (by rfl)]
       go_wp2_with (go_at_call 47;refine(HQ.o _ hS.bl).mono ?_;rintro e w5 ⟨he,hb5⟩;obtain rfl:e=.returned (.agg #[.string y0,.bool y1,.string y2,.string y3,.bool y4,.string y5,.bool y6,.string y7]):=he)
       have hS5:=hS.step hb5
       refine hK.out _ _ (fun _=>hS5) ?_
       clear hK hS
       have hS:=hS5
       clear hS5
       replace hA:=az hb5 hA
       replace hB:=az hb5 hB
       clear hb5
       refine bH (listed':=#[true,true,true,true,true,true,true,true,true,true,false,false]) (by kernel_rfl) ?_
       revert hS;revert hne;revert hBl;revert hB;revert hAl;revert hA;revert bB;revert bA;revert w5
       exact T.o
    case t=>
     intro W bA bB hA hAl hB hBl hne hS
     obtain⟨y0',y1',y2',y3',y4',y5',y6',y7',yf⟩:=dU hA
     have hg9:=kR hA (.string x0) (.bool x1) (.string x2) (.string x3) (.bool x4) (.string x5) (.bool x6) (.string x7)
     have hB9:=Ja hB hne (.string x0) (.bool x1) (.string x2) (.string x3) (.bool x4) (.string x5) (.bool x6) (.string x7)
     have hb9:=iW hS.bl hAl (.string x0) (.bool x1) (.string x2) (.string x3) (.bool x4) (.string x5) (.bool x6) (.string x7)
     refine ai (i:=10) (by kernel_rfl) rfl (fun K' hK=>?_)
     rw[if_pos (by rfl)]
     clear hS
     go_wp2
     refine hK.out _ _ (fun _=>WSu.of HC0.o HC1.o hb9) ?_
     clear hK y0' y1' y2' y3' y4' y5' y6' y7' yf hA hB
     generalize ((((((((_:World).setCell ⟨bA,0,none⟩ _).setCell ⟨bA,1,none⟩ _).setCell ⟨bA,2,none⟩ _).setCell ⟨bA,3,none⟩ _).setCell ⟨bA,4,none⟩ _).setCell ⟨bA,5,none⟩ _).setCell ⟨bA,6,none⟩ _).setCell ⟨bA,7,none⟩ _=W8 at hg9 hB9 hb9 ⊢
     obtain⟨y0',y1',y2',y3',y4',y5',y6',y7',yf⟩:=dU hB9
     have hgA:=Ja hg9 (Ne.symm hne) (.string y0) (.bool y1) (.string y2) (.string y3) (.bool y4) (.string y5) (.bool y6) (.string y7)
     have hgB:=kR hB9 (.string y0) (.bool y1) (.string y2) (.string y3) (.bool y4) (.string y5) (.bool y6) (.string y7)
     have hb8:=iW hb9 hBl (.string y0) (.bool y1) (.string y2) (.string y3) (.bool y4) (.string y5) (.bool y6) (.string y7)
     refine ai (i:=11) (by kernel_rfl) rfl (fun K' hK=>?_)
     rw[if_pos (by rfl)]
     go_wp2
     refine hK.out _ _ (fun h=>absurd rfl h) ?_
     clear hK y0' y1' y2' y3' y4' y5' y6' y7' yf hg9 hB9 hb9
     refine ja (by kernel_rfl) ?_ _
     generalize ((((((((_:World).setCell ⟨bB,0,none⟩ _).setCell ⟨bB,1,none⟩ _).setCell ⟨bB,2,none⟩ _).setCell ⟨bB,3,none⟩ _).setCell ⟨bB,4,none⟩ _).setCell ⟨bB,5,none⟩ _).setCell ⟨bB,6,none⟩ _).setCell ⟨bB,7,none⟩ _=W9 at hgA hgB hb8 ⊢
     obtain⟨r0,r1,r2,r3,r4,r5,r6,r7,-⟩:=dU hgA
     obtain⟨q0,q1,q2,q3,q4,q5,q6,q7,-⟩:=dU hgB
     go_wp2_with fail
     refine(HRs.o _ hb8).mono ?_
     rintro e w7 ⟨he,hb7⟩
     obtain rfl:e=.returned (.agg #[.string z0,.bool z1,.string z2,.string z3,.bool z4,.string z5,.bool z6,.string z7]):=he
     go_wp2_with fail
     refine(HWr.o _).mono ?_
     rintro e w9 ⟨he,hb10⟩
     obtain rfl:e=.returned (.string WB):=he
     have hb79:=hb8.trans (hb7.mono hb8.size)
     have hb99:=hb79.trans (hb10.mono hb79.size)
     clear r0 r1 r2 r3 r4 r5 r6 r7 q0 q1 q2 q3 q4 q5 q6 q7 hgA hgB hb7 hb8 hb10 hb79
     go_wp2
     go_ret
     exact⟨by rw[HR2.o];exact⟨_,rfl,by rw[ByteArray.data_append,Array.toList_append,HWl.o];rfl⟩,hb99⟩
 ·have hn:CY (tls xs)=.error 3:=Tk (by rw[di];exact h1) _
  rw[hn]
  obtain⟨A,cap,rfl,-⟩:=hX
  have HN:=Box.m (kD A xs.length cap 2 w h1)
  clear hl hE hn h1
  go_enter func25,ntmps25
  go_wp2_with fail
  refine HN.o.mono ?_
  rintro e w1 ⟨rfl,hw1⟩
  obtain rfl:=hw1.symm
  go_wp2
  exact⟨rfl,rfl,Below.refl _ _⟩
theorem Xl{P:Program}{w:World}(mty kt et:TypeId)(r clock:Nat)(es:List MapEntry)(s:ByteArray)(val:Value)(hm:P.underlying mty=some (.map kt et))(hk:P.underlying kt=some .string)(hb:w.heap[r]?=some (.map es.toArray clock))(hf:Instr.findNow .string (.string s) es 0=some none):
  (Instr.mapUpdate mty (.map (some r)) (.string s) val).run P w=.ok () { w with heap:=w.heap.setIfInBounds r (.map (es++[MapEntry.mk (.string s) val clock]).toArray (clock+1)) }:=by
 have hc:(Instr.checkKey false 10000 kt (.string s)).run P w=.ok () w:=MapKept.run_checkKey (k:=.string s) hk (by simp[MapKept.IsKey]) false 9999
 simp[Instr.mapUpdate,run_underlying hm,MapKept.run_getObj_map hb,hc,MapKept.run_findKey hk hf,MapKept.run_setObj_map _ hb,Result.andThen]
theorem Hm{C:Nat}{a w:World}(h:Below C a w)(r:Nat)(hr:C<=r)(o:Obj):Below C a { w with heap:=w.heap.setIfInBounds r o }:=
 h.trans ⟨rfl,rfl,rfl,by simp,fun k hk=>by simp only[Array.getElem?_setIfInBounds];rw[if_neg (by omega)]⟩
theorem dn{ops:Array Oper}{rest:List Oper}{o:Oper}{a:Act}{Q:Exit->Act->World->Prop}(W w0:World)(hg:o.guard=none)(hd:o.dst=none)(m x v:Operand)(hop:o.op=Op.insert 29 m x v)
  (r:Nat) (es:List MapEntry) (clock:Nat) (s:ByteArray) (val:Value) (e1:a.eval m=.map (some r)) (e2:a.eval x=.string s) (e3:a.eval v=val) (hb:W.heap[r]?=some (.map es.toArray clock)) (hf:Instr.findNow .string (.string s) es 0=some none) (C:Nat) (hC:C<=r) (hB:Below C w0 W)
  (h:∀w',w'.heap[r]?=some (.map (es++[MapEntry.mk (.string s) val clock]).toArray (clock+1))->Below C w0 w'->wpList prog ops Q rest a w'):wpList prog ops Q (o::rest) a W:=by
 refine wpList_plain hg fun K' hK'=>?_
 have hrun:=Xl (P:=prog) (w:=W) 29 9 _ r clock es s val underlying29 underlying9 hb hf
 have hr:=(Z5.1 hb).1
 have hw:=h { W with heap:=W.heap.setIfInBounds r (.map (es++[MapEntry.mk (.string s) val clock]).toArray (clock+1)) } (by simp[hr]) (Hm hB r hC _)
 unfold Oper.wp
 simp only[execOp,hop,e1,e2,e3,Sem.run_bind,hrun,Result.andThen]
 refine hK' _ _ ?_
 rw[hd]
 exact hw
def qF(d:Nat):List MapEntry:=[⟨.string ⟨#[97,100,100]⟩,.func (.func 12) #[.pointer (some ⟨d,0,none⟩)] #[],0⟩,⟨.string ⟨#[97,116]⟩,.func (.func 13) #[.pointer (some ⟨d,0,none⟩)] #[],1⟩,⟨.string ⟨#[98,105,110,100]⟩,.func (.func 14) #[.pointer (some ⟨d,0,none⟩)] #[],2⟩,⟨.string ⟨#[100,111,116,115]⟩,.func (.func 15) #[.pointer (some ⟨d,0,none⟩)] #[],3⟩,⟨.string ⟨#[102,105,110,100]⟩,.func (.func 16) #[.pointer (some ⟨d,0,none⟩)] #[],4⟩,⟨.string ⟨#[104,101,108,112]⟩,.func (.func 17) #[.pointer (some ⟨d,0,none⟩)] #[],5⟩,⟨.string ⟨#[107,105,110,100]⟩,.func (.func 18) #[.pointer (some ⟨d,0,none⟩)] #[],6⟩,⟨.string ⟨#[108,101,97,100]⟩,.func (.func 19) #[.pointer (some ⟨d,0,none⟩)] #[],7⟩,⟨.string ⟨#[108,105,110,107,115]⟩,.func (.func 20) #[.pointer (some ⟨d,0,none⟩)] #[],8⟩,⟨.string ⟨#[111,112,101,110]⟩,.func (.func 21) #[.pointer (some ⟨d,0,none⟩)] #[],9⟩,⟨.string ⟨#[112,97,99,107]⟩,.func (.func 22) #[.pointer (some ⟨d,0,none⟩)] #[],10⟩,⟨.string ⟨#[112,97,114,116,115]⟩,.func (.func 23) #[.pointer (some ⟨d,0,none⟩)] #[],11⟩,⟨.string ⟨#[113,117,111,116,101]⟩,.func (.func 24) #[.pointer (some ⟨d,0,none⟩)] #[],12⟩,⟨.string ⟨#[114,101,115,111,108,118,101]⟩,.func (.func 25) #[.pointer (some ⟨d,0,none⟩)] #[],13⟩,⟨.string ⟨#[117,110,112,97,99,107]⟩,.func (.func 26) #[.pointer (some ⟨d,0,none⟩)] #[],14⟩,⟨.string ⟨#[117,110,113,117,111,116,101]⟩,.func (.func 27) #[.pointer (some ⟨d,0,none⟩)] #[],15⟩]
def bD(d k:Nat):List MapEntry:=(qF d).take k
theorem Mf(d:Nat)(w:World):
  Calls prog 6 #[.pointer (some ⟨d,0,none⟩)] w fun e w'=>e=.returned (.map (some w.heap.size))/\w'.heap[w.heap.size]?=some (.map (qF d).toArray 16)/\Below w.heap.size w w':=by
 have hmf:∀(fn:Fn) (first cap:Array Value) (w:World),(Instr.makeFunc fn first cap).run prog w=.ok (.func fn first cap) w:=fun _ _ _ _=>rfl
 have hmm:=@run_makeMap prog
 go_enter func6,ntmps6
 have hb0:(w.alloc (.map #[] 0)).heap[w.heap.size]?=some (.map (bD d 0).toArray 0):=aP w _
 have hl0:Below w.heap.size w (w.alloc (.map #[] 0)):=ag.alloc af _
 go_wp2_with (first
  | (refine dn _ w rfl rfl (.tmp 3) (.const (.string ⟨#[97,100,100]⟩)) (.tmp 5) rfl w.heap.size (bD d 0) 0 ⟨#[97,100,100]⟩ (.func (.func 12) #[.pointer (some ⟨d,0,none⟩)] #[]) rfl rfl rfl hb0 (by rfl) w.heap.size af hl0 ?_;clear hb0 hl0;intro w1 h1 hl1;have hb1:w1.heap[w.heap.size]?=some (.map (bD d 1).toArray 1):=h1;clear h1)
  | (refine dn _ w rfl rfl (.tmp 3) (.const (.string ⟨#[97,116]⟩)) (.tmp 7) rfl w.heap.size (bD d 1) 1 ⟨#[97,116]⟩ (.func (.func 13) #[.pointer (some ⟨d,0,none⟩)] #[]) rfl rfl rfl hb1 (by rfl) w.heap.size af hl1 ?_;clear hb1 hl1;intro w2 h2 hl2;have hb2:w2.heap[w.heap.size]?=some (.map (bD d 2).toArray 2):=h2;clear h2)
  | (refine dn _ w rfl rfl (.tmp 3) (.const (.string ⟨#[98,105,110,100]⟩)) (.tmp 9) rfl w.heap.size (bD d 2) 2 ⟨#[98,105,110,100]⟩ (.func (.func 14) #[.pointer (some ⟨d,0,none⟩)] #[]) rfl rfl rfl hb2 (by rfl) w.heap.size af hl2 ?_;clear hb2 hl2;intro w3 h3 hl3;have hb3:w3.heap[w.heap.size]?=some (.map (bD d 3).toArray 3):=h3;clear h3)
  | (refine dn _ w rfl rfl (.tmp 3) (.const (.string ⟨#[100,111,116,115]⟩)) (.tmp 11) rfl w.heap.size (bD d 3) 3 ⟨#[100,111,116,115]⟩ (.func (.func 15) #[.pointer (some ⟨d,0,none⟩)] #[]) rfl rfl rfl hb3 (by rfl) w.heap.size af hl3 ?_;clear hb3 hl3;intro w4 h4 hl4;have hb4:w4.heap[w.heap.size]?=some (.map (bD d 4).toArray 4):=h4;clear h4)
  | (refine dn _ w rfl rfl (.tmp 3) (.const (.string ⟨#[102,105,110,100]⟩)) (.tmp 13) rfl w.heap.size (bD d 4) 4 ⟨#[102,105,110,100]⟩ (.func (.func 16) #[.pointer (some ⟨d,0,none⟩)] #[]) rfl rfl rfl hb4 (by rfl) w.heap.size af hl4 ?_;clear hb4 hl4;intro w5 h5 hl5;have hb5:w5.heap[w.heap.size]?=some (.map (bD d 5).toArray 5):=h5;clear h5)
  | (refine dn _ w rfl rfl (.tmp 3) (.const (.string ⟨#[104,101,108,112]⟩)) (.tmp 15) rfl w.heap.size (bD d 5) 5 ⟨#[104,101,108,112]⟩ (.func (.func 17) #[.pointer (some ⟨d,0,none⟩)] #[]) rfl rfl rfl hb5 (by rfl) w.heap.size af hl5 ?_;clear hb5 hl5;intro w6 h6 hl6;have hb6:w6.heap[w.heap.size]?=some (.map (bD d 6).toArray 6):=h6;clear h6)
  | (refine dn _ w rfl rfl (.tmp 3) (.const (.string ⟨#[107,105,110,100]⟩)) (.tmp 17) rfl w.heap.size (bD d 6) 6 ⟨#[107,105,110,100]⟩ (.func (.func 18) #[.pointer (some ⟨d,0,none⟩)] #[]) rfl rfl rfl hb6 (by rfl) w.heap.size af hl6 ?_;clear hb6 hl6;intro w7 h7 hl7;have hb7:w7.heap[w.heap.size]?=some (.map (bD d 7).toArray 7):=h7;clear h7)
  | (refine dn _ w rfl rfl (.tmp 3) (.const (.string ⟨#[108,101,97,100]⟩)) (.tmp 19) rfl w.heap.size (bD d 7) 7 ⟨#[108,101,97,100]⟩ (.func (.func 19) #[.pointer (some ⟨d,0,none⟩)] #[]) rfl rfl rfl hb7 (by rfl) w.heap.size af hl7 ?_;clear hb7 hl7;intro w8 h8 hl8;have hb8:w8.heap[w.heap.size]?=some (.map (bD d 8).toArray 8):=h8;clear h8)
  | (refine dn _ w rfl rfl (.tmp 3) (.const (.string ⟨#[108,105,110,107,115]⟩)) (.tmp 21) rfl w.heap.size (bD d 8) 8 ⟨#[108,105,110,107,115]⟩ (.func (.func 20) #[.pointer (some ⟨d,0,none⟩)] #[]) rfl rfl rfl hb8 (by rfl) w.heap.size af hl8 ?_;clear hb8 hl8;intro w9 h9 hl9;have hb9:w9.heap[w.heap.size]?=some (.map (bD d 9).toArray 9):=h9;clear h9)
  | (refine dn _ w rfl rfl (.tmp 3) (.const (.string ⟨#[111,112,101,110]⟩)) (.tmp 23) rfl w.heap.size (bD d 9) 9 ⟨#[111,112,101,110]⟩ (.func (.func 21) #[.pointer (some ⟨d,0,none⟩)] #[]) rfl rfl rfl hb9 (by rfl) w.heap.size af hl9 ?_;clear hb9 hl9;intro w10 h10 hl10;have hb10:w10.heap[w.heap.size]?=some (.map (bD d 10).toArray 10):=h10;clear h10)
  | (refine dn _ w rfl rfl (.tmp 3) (.const (.string ⟨#[112,97,99,107]⟩)) (.tmp 25) rfl w.heap.size (bD d 10) 10 ⟨#[112,97,99,107]⟩ (.func (.func 22) #[.pointer (some ⟨d,0,none⟩)] #[]) rfl rfl rfl hb10 (by rfl) w.heap.size af hl10 ?_;clear hb10 hl10;intro w11 h11 hl11;have hb11:w11.heap[w.heap.size]?=some (.map (bD d 11).toArray 11):=h11;clear h11)
  | (refine dn _ w rfl rfl (.tmp 3) (.const (.string ⟨#[112,97,114,116,115]⟩)) (.tmp 27) rfl w.heap.size (bD d 11) 11 ⟨#[112,97,114,116,115]⟩ (.func (.func 23) #[.pointer (some ⟨d,0,none⟩)] #[]) rfl rfl rfl hb11 (by rfl) w.heap.size af hl11 ?_;clear hb11 hl11;intro w12 h12 hl12;have hb12:w12.heap[w.heap.size]?=some (.map (bD d 12).toArray 12):=h12;clear h12)
  | (refine dn _ w rfl rfl (.tmp 3) (.const (.string ⟨#[113,117,111,116,101]⟩)) (.tmp 29) rfl w.heap.size (bD d 12) 12 ⟨#[113,117,111,116,101]⟩ (.func (.func 24) #[.pointer (some ⟨d,0,none⟩)] #[]) rfl rfl rfl hb12 (by rfl) w.heap.size af hl12 ?_;clear hb12 hl12;intro w13 h13 hl13;have hb13:w13.heap[w.heap.size]?=some (.map (bD d 13).toArray 13):=h13;clear h13)
  | (refine dn _ w rfl rfl (.tmp 3) (.const (.string ⟨#[114,101,115,111,108,118,101]⟩)) (.tmp 31) rfl w.heap.size (bD d 13) 13 ⟨#[114,101,115,111,108,118,101]⟩ (.func (.func 25) #[.pointer (some ⟨d,0,none⟩)] #[]) rfl rfl rfl hb13 (by rfl) w.heap.size af hl13 ?_;clear hb13 hl13;intro w14 h14 hl14;have hb14:w14.heap[w.heap.size]?=some (.map (bD d 14).toArray 14):=h14;clear h14)
  | (refine dn _ w rfl rfl (.tmp 3) (.const (.string ⟨#[117,110,112,97,99,107]⟩)) (.tmp 33) rfl w.heap.size (bD d 14) 14 ⟨#[117,110,112,97,99,107]⟩ (.func (.func 26) #[.pointer (some ⟨d,0,none⟩)] #[]) rfl rfl rfl hb14 (by rfl) w.heap.size af hl14 ?_;clear hb14 hl14;intro w15 h15 hl15;have hb15:w15.heap[w.heap.size]?=some (.map (bD d 15).toArray 15):=h15;clear h15)
  | (refine dn _ w rfl rfl (.tmp 3) (.const (.string ⟨#[117,110,113,117,111,116,101]⟩)) (.tmp 35) rfl w.heap.size (bD d 15) 15 ⟨#[117,110,113,117,111,116,101]⟩ (.func (.func 27) #[.pointer (some ⟨d,0,none⟩)] #[]) rfl rfl rfl hb15 (by rfl) w.heap.size af hl15 ?_;clear hb15 hl15;intro w16 h16 hl16;have hb16:w16.heap[w.heap.size]?=some (.map (bD d 16).toArray 16):=h16;clear h16)
  | fail)
 go_ret
 exact⟨rfl,hb16,hl16⟩
theorem zC(p:Addr)(w:World):
  CallsD prog 32 #[.pointer (some p)] .returning w fun e u' w'=>e=.returned (.tuple #[])/\u'=.returning/\w'=w:=by
 refine callsD_of_wpS func32 rfl fun c₀ cs hu=>?_
 apply wpS_seq
 apply wpS_region
 simp[wpOpsS,go_sem,recoverD,hu,ntmps32,Exit.thenS]
 apply wpS_seq
 apply wpS_seq
 apply wpS_region
 simp[wpOpsS,go_sem,Exit.thenS]
 refine wpS_cond (t:=true) (by simp[Act.eval,Array.replicate]) ?_
 simp only[if_true]
 refine wpS_of_wp (wp_ret ?_)
 cases c₀
 simp_all[bodyPostS,results,results32,Exit.thenS]
theorem vv(b:Nat)(t0:Value)(c:Nat)(older:List PanicEntry)(w:World)(hc:w.cell? ⟨b,0,none⟩=some t0)(hz:w.frozen? ⟨b,0,none⟩=false)(h1:c<=1000)(ht:Tab w):
  CallsD prog 32 #[.pointer (some ⟨b,0,none⟩)] (.panicking ({ v:=.iface 25 (.int .i64 (c:Int)),recovered:=false }::older)) w fun e u' w'=>
   e=.returned (.tuple #[])/\u'=.panicking ({ v:=.iface 25 (.int .i64 (c:Int)),recovered:=true }::older)/\∃(T:ByteArray) (w1:World),T.data.toList=nE c/\Below w.heap.size w w1/\w'=w1.setCell ⟨b,0,none⟩ (.string T):=by
 have HW:=Box.m (Mj c w h1 ht)
 clear h1 ht
 refine callsD_of_wpS func32 rfl fun c₀ cs hu=>?_
 apply wpS_seq
 apply wpS_region
 simp[wpOpsS,go_sem,recoverD,hu,ntmps32,Exit.thenS]
 apply wpS_of_wp
 have ht:(#[Value.pointer (some ⟨b,0,none⟩)]++((Array.replicate 16 undef).setIfInBounds 3 (Value.iface 25 (Value.int IntKind.i64 (c:Int)))).setIfInBounds 0 (Value.iface 25 (Value.int IntKind.i64 (c:Int))))=#[Value.pointer (some ⟨b,0,none⟩),Value.iface 25 (Value.int IntKind.i64 (c:Int)),undef,undef,Value.iface 25 (Value.int IntKind.i64 (c:Int)),undef,undef,undef,undef,undef,undef,undef,undef,undef,undef,undef,undef]:=by rfl
 rw[ht]
 clear ht hu
 have hta:∀w:World,(Instr.typeAssert (.iface 25 (.int .i64 (c:Int))) 20 25 true).run prog w=.ok (.tuple #[.int .i64 (c:Int),.bool true]) w:=fun _=>by kernel_rfl
 go_wp2_with fail
 refine HW.o.mono ?_
 rintro e w1 ⟨T,rfl,hT,hb1⟩
 have hlt:=Z6 w _ hc
 have hc1:=(hb1.cell (p:=⟨b,0,none⟩) hlt).trans hc
 have hz1:=(hb1.frozen (p:=⟨b,0,none⟩) hlt).trans hz
 have HT:=Box.m hT
 clear HW hc hz hT
 go_wp2
 simp[bodyPostS,results,results32]
 exact⟨T,HT.o,w1,hb1,rfl⟩
theorem MP(w:World):PredGrows prog 34 #[] (fun r=>r==32) w:=by
 intro W x hx hb
 show Calls prog 34 #[.int .i32 (x:Int)] W _
 have he:((x:Int)==32)=(x==32):=by
  rw[Bool.eq_iff_iff,beq_iff_eq,beq_iff_eq]
  omega
 clear hb hx
 go_enter func34,ntmps34
 go_wp2
 go_ret
 exact⟨rfl,Below.refl _ _⟩
theorem oJ{w w':World}(h:Below w.heap.size w w')(r:Option Nat):w.grownBy w' r:=⟨h.os,h.tape,h.output,h.size,fun k hk _=>h.block k hk⟩
def ZI(g d:Nat)(σ:Dk)(xs:List ByteArray)(O:eU)(σ':Dk):Prop:=∀(Xf:Nat->Prop) (w:World) (v:Value),(∀i,Xf i->i<w.heap.size)->DS Xf w d σ->lg w d->TL w v xs->Calls prog g #[.pointer (some ⟨d,0,none⟩),v] w fun e w'=>kM O e/\DS Xf w' d σ'/\w.grownBy w' (some d)
theorem dS{g d:Nat}{σ:Dk}{xs:List ByteArray}{O:eU}(h:∀(Xf:Nat->Prop) (w:World) (v:Value),DS Xf w d σ->lg w d->Env w->TL w v xs->Calls prog g #[.pointer (some ⟨d,0,none⟩),v] w fun e w'=>kM O e/\Below w.heap.size w w'):ZI g d σ xs O σ:=by
 intro Xf w v _ hd hE hX
 refine(h Xf w v hd hE (hE.env (VQ hd.lt)) hX).mono ?_
 rintro e w' ⟨h1,hb⟩
 exact⟨h1,hd.below hb,oJ hb _⟩
def lJ(d:Nat)(σ:Dk)(k:ByteArray)(xs:List ByteArray):Prop:=
 (nk σ k.data.toList (tls xs)=none/\Instr.findNow .string (.string k) (qF d) 0=some none) \/
 ∃i g O σ',nk σ k.data.toList (tls xs)=some (O,σ')/\Instr.findNow .string (.string k) (qF d) 0=some (some (i,.func (.func g) #[.pointer (some ⟨d,0,none⟩)] #[]))/\(∀args w,(callFunc g args).run prog w=.ok (.enter g args) w)/\ZI g d σ xs O σ'
theorem jw{k:ByteArray}{l:aa}(h:k.data.toList≠l):(k==(⟨l.toArray⟩:ByteArray))=false:=by
 obtain⟨x⟩:=k
 show(x==l.toArray)=false
 rw[beq_eq_false_iff_ne]
 intro e
 apply h
 show x.toList=l
 rw[e]
theorem ek{k b:ByteArray}{v:Value}{n i:Nat}{es:List MapEntry}(h:(k==b)=false):Instr.findNow .string (.string k) (⟨.string b,v,n⟩::es) i=Instr.findNow .string (.string k) es (i+1):=by
 simp[Instr.findNow,Instr.sameNow,h]
theorem QJ(d:Nat)(σ:Dk)(hσ:σ.added.length<=2500)(xs:List ByteArray)(hl:fO (tls xs)<=3000):lJ d σ ⟨#[97,100,100]⟩ xs:=
 .inr ⟨0,12,.ok DU,⟨σ.added++(dL (tls xs)++[13,10]),σ.bd⟩,rfl,rfl,fun _ _=>rfl,fun _ _ v _ hd _ hX=>Vr hd (by omega) v xs hX hl⟩
theorem VA(d:Nat)(σ:Dk)(xs:List ByteArray)(hl:fO (tls xs)<=3000):lJ d σ ⟨#[97,116]⟩ xs:=
 .inr ⟨1,13,_,σ,rfl,rfl,fun _ _=>rfl,dS fun _ _ v hd hE _ hX=>Xj hd v xs hX hl hE⟩
theorem NH(d:Nat)(σ:Dk)(xs:List ByteArray)  : lJ d σ ⟨#[98,105,110,100]⟩ xs:=
 .inr ⟨2,14,_,σ,rfl,rfl,fun _ _=>rfl,dS fun _ _ v hd _ hE' hX=>P5 hd v xs hX hE'⟩
theorem Le(d:Nat)(σ:Dk)(xs:List ByteArray)(hl:fO (tls xs)<=3000):lJ d σ ⟨#[100,111,116,115]⟩ xs:=
 .inr ⟨3,15,_,σ,rfl,rfl,fun _ _=>rfl,dS fun _ w v _ _ hE' hX=>QW d v xs w hX hl hE'⟩
theorem Lv(d:Nat)(σ:Dk)(xs:List ByteArray)(hl:fO (tls xs)<=3000):lJ d σ ⟨#[102,105,110,100]⟩ xs:=
 .inr ⟨4,16,_,σ,rfl,rfl,fun _ _=>rfl,dS fun _ _ v hd _ hE' hX=>QH hd v xs hX hl hE'⟩
theorem Nb(d:Nat)(σ:Dk)(xs:List ByteArray)  : lJ d σ ⟨#[104,101,108,112]⟩ xs:=
 .inr ⟨5,17,_,σ,rfl,rfl,fun _ _=>rfl,dS fun _ w v _ _ _ hX=>QN d v xs w hX⟩
theorem K3(d:Nat)(σ:Dk)(xs:List ByteArray)(hl:fO (tls xs)<=3000):lJ d σ ⟨#[107,105,110,100]⟩ xs:=
 .inr ⟨6,18,_,σ,rfl,rfl,fun _ _=>rfl,dS fun _ w v _ _ hE' hX=>PH d v xs w hX hl hE'⟩
theorem K6(d:Nat)(σ:Dk)(xs:List ByteArray)(hl:fO (tls xs)<=3000):lJ d σ ⟨#[108,101,97,100]⟩ xs:=
 .inr ⟨7,19,_,σ,rfl,rfl,fun _ _=>rfl,dS fun _ _ v hd hE _ hX=>Qy hd v xs hX hl hE⟩
theorem JP(d:Nat)(σ:Dk)(xs:List ByteArray)(hl:fO (tls xs)<=3000):lJ d σ ⟨#[108,105,110,107,115]⟩ xs:=
 .inr ⟨8,20,_,σ,rfl,rfl,fun _ _=>rfl,dS fun _ w v _ _ hE' hX=>Nz d v xs w hX hl hE'⟩
theorem UZ(σ:Dk)(ws:List (aa)):nk σ JY ws=some ((xK σ ws).1,(xK σ ws).2):=by
 unfold xK
 match ws with
 | []=>
  unfold nk Sd
  rw[if_neg (by decide),if_neg (by decide),if_neg (by decide),if_neg (by decide),if_neg (by decide),if_neg (by decide),if_neg (by decide),if_neg (by decide),if_neg (by decide),if_pos rfl]
  cases oF σ.added<;>rfl
 | _::_=>rfl
theorem MZ(d:Nat)(σ:Dk)(hσ:σ.added.length<=2500)(xs:List ByteArray):lJ d σ ⟨#[111,112,101,110]⟩ xs:=
 .inr ⟨9,21,(xK σ (tls xs)).1,(xK σ (tls xs)).2,UZ σ (tls xs),rfl,fun _ _=>rfl,fun _ _ v hXf hd hE hX=>QU hd hσ v xs hX hE hXf⟩
theorem MQ(d:Nat)(σ:Dk)(xs:List ByteArray)(hl:fO (tls xs)<=3000):lJ d σ ⟨#[112,97,99,107]⟩ xs:=
 .inr ⟨10,22,_,σ,rfl,rfl,fun _ _=>rfl,dS fun _ w v _ _ _ hX=>Qs d v xs w hX hl⟩
theorem Jf(d:Nat)(σ:Dk)(xs:List ByteArray)  : lJ d σ ⟨#[112,97,114,116,115]⟩ xs:=
 .inr ⟨11,23,_,σ,rfl,rfl,fun _ _=>rfl,dS fun _ _ v hd hE _ hX=>Mq hd v xs hX hE⟩
theorem JJ(d:Nat)(σ:Dk)(xs:List ByteArray)(hl:fO (tls xs)<=3000):lJ d σ ⟨#[113,117,111,116,101]⟩ xs:=
 .inr ⟨12,24,_,σ,rfl,rfl,fun _ _=>rfl,dS fun _ w v _ _ _ hX=>NR d v xs w hX hl⟩
theorem D9(d:Nat)(σ:Dk)(xs:List ByteArray)(hl:fO (tls xs)<=3000):lJ d σ ⟨#[114,101,115,111,108,118,101]⟩ xs:=
 .inr ⟨13,25,_,σ,rfl,rfl,fun _ _=>rfl,dS fun _ w v _ _ hE' hX=>GD d v xs w hX hl hE'⟩
theorem G8(d:Nat)(σ:Dk)(xs:List ByteArray)(hl:fO (tls xs)<=3000):lJ d σ ⟨#[117,110,112,97,99,107]⟩ xs:=
 .inr ⟨14,26,_,σ,rfl,rfl,fun _ _=>rfl,dS fun _ w v _ _ hE' hX=>Ke d v xs w hX hl hE'⟩
theorem Er(d:Nat)(σ:Dk)(xs:List ByteArray)(hl:fO (tls xs)<=3000):lJ d σ ⟨#[117,110,113,117,111,116,101]⟩ xs:=
 .inr ⟨15,27,_,σ,rfl,rfl,fun _ _=>rfl,dS fun _ w v _ _ hE' hX=>GH d v xs w hX hl hE'⟩
theorem P8(d:Nat)(σ:Dk)(hσ:σ.added.length<=2500)(k:ByteArray)(xs:List ByteArray)(hl:fO (tls xs)<=3000):lJ d σ k xs:=by
 by_cases h0:k.data.toList=DU
 ·obtain rfl:k=⟨#[97,100,100]⟩:=aF h0
  exact QJ d σ hσ xs hl
 by_cases h1:k.data.toList=wAt
 ·obtain rfl:k=⟨#[97,116]⟩:=aF h1
  exact VA d σ xs hl
 by_cases h2:k.data.toList=OB
 ·obtain rfl:k=⟨#[98,105,110,100]⟩:=aF h2
  exact NH d σ xs
 by_cases h3:k.data.toList=OU
 ·obtain rfl:k=⟨#[100,111,116,115]⟩:=aF h3
  exact Le d σ xs hl
 by_cases h4:k.data.toList=Oh
 ·obtain rfl:k=⟨#[102,105,110,100]⟩:=aF h4
  exact Lv d σ xs hl
 by_cases h5:k.data.toList=OW
 ·obtain rfl:k=⟨#[104,101,108,112]⟩:=aF h5
  exact Nb d σ xs
 by_cases h6:k.data.toList=OT
 ·obtain rfl:k=⟨#[107,105,110,100]⟩:=aF h6
  exact K3 d σ xs hl
 by_cases h7:k.data.toList=O7
 ·obtain rfl:k=⟨#[108,101,97,100]⟩:=aF h7
  exact K6 d σ xs hl
 by_cases h8:k.data.toList=tu
 ·obtain rfl:k=⟨#[108,105,110,107,115]⟩:=aF h8
  exact JP d σ xs hl
 by_cases h9:k.data.toList=JY
 ·obtain rfl:k=⟨#[111,112,101,110]⟩:=aF h9
  exact MZ d σ hσ xs
 by_cases h10:k.data.toList=F7
 ·obtain rfl:k=⟨#[112,97,99,107]⟩:=aF h10
  exact MQ d σ xs hl
 by_cases h11:k.data.toList=oZ
 ·obtain rfl:k=⟨#[112,97,114,116,115]⟩:=aF h11
  exact Jf d σ xs
 by_cases h12:k.data.toList=Hf
 ·obtain rfl:k=⟨#[113,117,111,116,101]⟩:=aF h12
  exact JJ d σ xs hl
 by_cases h13:k.data.toList=qo
 ·obtain rfl:k=⟨#[114,101,115,111,108,118,101]⟩:=aF h13
  exact D9 d σ xs hl
 by_cases h14:k.data.toList=AZ
 ·obtain rfl:k=⟨#[117,110,112,97,99,107]⟩:=aF h14
  exact G8 d σ xs hl
 by_cases h15:k.data.toList=xJ
 ·obtain rfl:k=⟨#[117,110,113,117,111,116,101]⟩:=aF h15
  exact Er d σ xs hl
 refine .inl ⟨?_,?_⟩
 ·unfold nk
  rw[if_neg h0,if_neg h1,if_neg h2,if_neg h3,if_neg h4,if_neg h5,if_neg h6,if_neg h7,if_neg h8,if_neg h9,if_neg h10,if_neg h11,if_neg h12,if_neg h13,if_neg h14,if_neg h15]
 ·unfold qF
  rw[ek (b:=⟨#[97,100,100]⟩) (jw h0),ek (b:=⟨#[97,116]⟩) (jw h1),ek (b:=⟨#[98,105,110,100]⟩) (jw h2),ek (b:=⟨#[100,111,116,115]⟩) (jw h3),ek (b:=⟨#[102,105,110,100]⟩) (jw h4),ek (b:=⟨#[104,101,108,112]⟩) (jw h5),ek (b:=⟨#[107,105,110,100]⟩) (jw h6),ek (b:=⟨#[108,101,97,100]⟩) (jw h7),ek (b:=⟨#[108,105,110,107,115]⟩) (jw h8),ek (b:=⟨#[111,112,101,110]⟩) (jw h9),ek (b:=⟨#[112,97,99,107]⟩) (jw h10),ek (b:=⟨#[112,97,114,116,115]⟩) (jw h11),ek (b:=⟨#[113,117,111,116,101]⟩) (jw h12),ek (b:=⟨#[114,101,115,111,108,118,101]⟩) (jw h13),ek (b:=⟨#[117,110,112,97,99,107]⟩) (jw h14),ek (b:=⟨#[117,110,113,117,111,116,101]⟩) (jw h15)]
  rfl
end Go.Proofs.YtkldkhdigkpniaaGreatDoor
namespace Go.Proofs.YtkldkhdigkpniaaGreatDoor
open Go.RowKit Go.Proofs.Tryz
def jF{α:Type}(O:Except Nat α):Prop:=∀c,O=.error c->c<=1000
theorem dI{α:Type}(x:α):jF (.ok x:Except Nat α):=fun c h=>by cases h
theorem aT{α:Type}(c:Nat)(h:c<=1000):jF (.error c:Except Nat α):=fun c' e=>by cases e;exact h
theorem Cy{α β:Type}(f:Nat->α->Except Nat (β×Nat))(hf:∀n x,jF (f n x)):∀(xs:List α) (n:Nat),jF (dA f xs n)
 | [],n=>dI _
 | x::xs,n=>by
  rw[dA]
  have h1:=hf n x
  cases hx:f n x with
  | error e=>rw[hx]at h1;exact aT e (h1 e rfl)
  | ok q=>
   have h2:=Cy f hf xs q.2
   simp only
   cases hr:dA f xs q.2 with
   | error e=>rw[hr]at h2;exact aT e (h2 e rfl)
   | ok r=>exact dI _
theorem Dr(bn:List (aa)->aa):∀(d n:Nat) (p:PT),jF (iF bn d n p)
 | 0,_,_=>aT 4 (by decide)
 | d+1,n,.mk L b many ps=>by
  rw[iF]
  split
  ·exact aT 4 (by decide)
  ·split
   ·exact aT 1 (by decide)
   ·split
    ·have h:=Cy (iF bn d) (fun n x=>Dr bn d n x) ps (n+1)
     cases hr:dA (iF bn d) ps (n+1)with
     | error e=>rw[hr]at h;exact aT e (h e rfl)
     | ok r=>exact dI _
    ·exact dI _
theorem Uc(O:Except Nat (aa×Nat))(h:jF O):jF (sw O):=by
 cases O with
 | error c=>exact aT c (h c rfl)
 | ok q=>
  unfold sw
  simp only
  split
  ·exact aT 4 (by decide)
  ·exact dI _
theorem Qu(b:BB):jF (oL b):=by
 unfold oL
 have h:=Uc _ (Dr jJ 4 0 (nu b (BO (lq b))))
 cases hr:sw (dY 4 0 (nu b (BO (lq b))))with
 | error c=>exact aT c (h c hr)
 | ok t=>exact dI _
theorem Cq(e:Nat)(h:e<=1000)(o:Option (aa)):jF (kQ e o):=by
 cases o with
 | none=>exact aT e h
 | some b=>exact dI _
theorem JU(L:List PB)(body:aa):jF (eX L body):=by
 unfold eX
 split
 ·exact dI _
 ·split
  ·exact dI _
  ·split
   ·exact Cq 3 (by decide) _
   ·split
    ·exact Cq 3 (by decide) _
    ·exact aT 5 (by decide)
theorem Jh(L:List PB):jF (aS L):=by
 unfold aS
 split
 ·exact dI _
 ·split
  ·exact aT 3 (by decide)
  ·split
   ·split
    ·exact dI _
    ·exact aT 3 (by decide)
   ·exact dI _
theorem PO(s:aa):jF (iA s):=by
 unfold iA
 split
 ·exact aT 3 (by decide)
 ·split
  ·exact dI _
  ·exact aT 1 (by decide)
theorem FN:∀(d n:Nat) (s:aa),jF (bU d n s)
 | 0,_,_=>aT 4 (by decide)
 | d+1,n,s=>by
  rw[bU]
  split
  ·exact aT 4 (by decide)
  ·have h1:=PO s
   cases hh:iA s with
   | error e=>rw[hh]at h1;exact aT e (h1 e rfl)
   | ok h=>
    simp only
    have h2:=Jh h.1
    cases hm:aS h.1 with
    | error e=>rw[hm]at h2;exact aT e (h2 e rfl)
    | ok o=>
     cases o with
     | none=>
      simp only
      have h3:=JU h.1 h.2
      cases hd:eX h.1 h.2 with
      | error e=>rw[hd]at h3;exact aT e (h3 e rfl)
      | ok b=>exact dI _
     | some b=>
      simp only
      cases hb:dV b h.2 with
      | none=>exact aT 3 (by decide)
      | some xs=>
       simp only
       have h3:=Cy (bU d) (fun n x=>FN d n x) xs (n+1)
       cases hr:dA (bU d) xs (n+1)with
       | error e=>rw[hr]at h3;exact aT e (h3 e rfl)
       | ok r=>exact dI _
theorem Ry(s:aa):jF (oF s):=by
 have h:jF (gB s):=by
  unfold gB
  split
  ·exact aT 4 (by decide)
  ·have h1:=FN 4 0 s
   cases hr:bU 4 0 s with
   | error c=>rw[hr]at h1;exact aT c (h1 c rfl)
   | ok q=>exact dI _
 unfold oF
 cases hr:gB s with
 | error c=>rw[hr]at h;exact aT c (h c rfl)
 | ok p=>
  obtain⟨L,x,m,ps⟩:=p
  simp only
  rw[xm]
  split
  ·exact aT 6 (by decide)
  ·split
   ·exact aT 8 (by decide)
   ·split
    ·exact aT 13 (by decide)
    ·exact dI _
theorem yE(ws:List (aa))(r:eU)(h:jF r):jF (rT ws r):=by
 unfold rT
 split
 ·exact h
 ·exact aT 3 (by decide)
theorem uO(ws:List (aa))(f:aa->eU)(h:∀a,jF (f a)):jF (nC ws f):=by
 unfold nC
 split
 ·exact h _
 ·exact aT 3 (by decide)
theorem PI(ws:List (aa))(f:aa->aa->eU)(h:∀a b,jF (f a b)):jF (tZ ws f):=by
 unfold tZ
 split
 ·exact h _ _
 ·exact aT 3 (by decide)
theorem qm(σ:Dk)(f:BB->eU)(h:∀b,jF (f b)):jF (dR σ f):=by
 unfold dR
 split
 ·exact aT 7 (by decide)
 ·exact h _
theorem wI(w:aa)(f:AB->eU)(h:∀b,jF (f b)):jF (dQ w f):=by
 unfold dQ
 split
 ·exact aT 3 (by decide)
 ·exact h _
theorem xX(w:aa)(f:Int->eU)(h:∀b,jF (f b)):jF (lN w f):=by
 unfold lN
 split
 ·exact aT 3 (by decide)
 ·exact h _
theorem EX(o:Option (aa)):jF (F4 o):=by
 cases o with
 | none=>exact aT 3 (by decide)
 | some b=>exact dI _
theorem KJ(σ:Dk)(w:aa)(ws:List (aa))(O:eU)(σ':Dk)(h:nk σ w ws=some (O,σ')):jF O:=by
 have pr:∀{r:eU×Dk},some r=some (O,σ')->jF r.1->jF O:=fun e h=>by rw[Option.some.inj e]at h;exact h
 unfold nk at h
 by_cases h0:w=DU
 ·rw[if_pos h0]at h
  exact pr h (dI _)
 rw[if_neg h0]at h
 by_cases h1:w=wAt
 ·rw[if_pos h1]at h
  exact pr h (uO _ _ fun a=>qm _ _ fun b=>xX _ _ fun i=>by split;exact aT 2 (by decide);exact dI _)
 rw[if_neg h1]at h
 by_cases h2:w=OB
 ·rw[if_pos h2]at h
  exact pr h (yE _ _ (qm _ _ Qu))
 rw[if_neg h2]at h
 by_cases h3:w=OU
 ·rw[if_pos h3]at h
  exact pr h (uO _ _ fun a=>dI _)
 rw[if_neg h3]at h
 by_cases h4:w=Oh
 ·rw[if_pos h4]at h
  exact pr h (uO _ _ fun a=>qm _ _ fun b=>wI _ _ fun x=>dI _)
 rw[if_neg h4]at h
 by_cases h5:w=OW
 ·rw[if_pos h5]at h
  exact pr h (yE _ _ (dI _))
 rw[if_neg h5]at h
 by_cases h6:w=OT
 ·rw[if_pos h6]at h
  exact pr h (by show jF (match eO (dL ws)with|none=>.error 3|some q=>.ok (eQ q.1 q.2):eU);split;exact aT 3 (by decide);exact dI _)
 rw[if_neg h6]at h
 by_cases h7:w=O7
 ·rw[if_pos h7]at h
  exact pr h (uO _ _ fun a=>qm _ _ fun b=>xX _ _ fun i=>by split;exact aT 2 (by decide);exact dI _)
 rw[if_neg h7]at h
 by_cases h8:w=tu
 ·rw[if_pos h8]at h
  exact pr h (dI _)
 rw[if_neg h8]at h
 by_cases h9:w=JY
 ·rw[if_pos h9]at h
  split at h
  ·have h1:=Ry σ.added
   cases hr:oF σ.added with
   | error c=>rw[hr]at h h1;exact pr h (aT c (h1 c rfl))
   | ok b=>rw[hr]at h;exact pr h (dI _)
  ·exact pr h (aT 3 (by decide))
 rw[if_neg h9]at h
 by_cases h10:w=F7
 ·rw[if_pos h10]at h
  exact pr h (dI _)
 rw[if_neg h10]at h
 by_cases h11:w=oZ
 ·rw[if_pos h11]at h
  exact pr h (yE _ _ (qm _ _ fun b=>dI _))
 rw[if_neg h11]at h
 by_cases h12:w=Hf
 ·rw[if_pos h12]at h
  exact pr h (dI _)
 rw[if_neg h12]at h
 by_cases h13:w=qo
 ·rw[if_pos h13]at h
  exact pr h (PI _ _ fun a b=>wI _ _ fun x=>wI _ _ fun y=>dI _)
 rw[if_neg h13]at h
 by_cases h14:w=AZ
 ·rw[if_pos h14]at h
  exact pr h (EX _)
 rw[if_neg h14]at h
 by_cases h15:w=xJ
 ·rw[if_pos h15]at h
  exact pr h (EX _)
 rw[if_neg h15]at h
 cases h
end Go.Proofs.YtkldkhdigkpniaaGreatDoor
namespace Go.Proofs.YtkldkhdigkpniaaGreatDoor
open Go.RowKit Go.Proofs.Px Go.Proofs.Tryz
theorem UW{P:Program}{w:World}(mty kt et:TypeId)(r clock:Nat)(es:List MapEntry)(s:ByteArray)(i:Nat)(v:Value)(hm:P.underlying mty=some (.map kt et))(hk:P.underlying kt=some .string)(hb:w.heap[r]?=some (.map es.toArray clock))(hf:Instr.findNow .string (.string s) es 0=some (some (i,v))):
  (Instr.lookup mty (.map (some r)) (.string s) true).run P w=.ok (.tuple #[v,.bool true]) w:=by
 have hc:∀e,(Instr.checkKey e 10000 kt (.string s)).run P w=.ok () w:=fun e=>MapKept.run_checkKey (k:=.string s) hk (by simp[MapKept.IsKey]) e 9999
 simp[Instr.lookup,run_underlying hm,MapKept.run_getObj_map hb,hc,MapKept.run_findKey hk hf,Result.andThen]
theorem Jz{P:Program}{w:World}(mty kt et:TypeId)(r clock:Nat)(es:List MapEntry)(s:ByteArray)(z:Value)(hm:P.underlying mty=some (.map kt et))(hk:P.underlying kt=some .string)(hz:(zeroValue et).run P w=.ok z w)(hb:w.heap[r]?=some (.map es.toArray clock))(hf:Instr.findNow .string (.string s) es 0=some none):
  (Instr.lookup mty (.map (some r)) (.string s) true).run P w=.ok (.tuple #[z,.bool false]) w:=by
 have hc:∀e,(Instr.checkKey e 10000 kt (.string s)).run P w=.ok () w:=fun e=>MapKept.run_checkKey (k:=.string s) hk (by simp[MapKept.IsKey]) e 9999
 simp[Instr.lookup,run_underlying hm,MapKept.run_getObj_map hb,hc,MapKept.run_findKey hk hf,Result.andThen,hz]
theorem Pg{w:World}{B A:Nat}{k:ByteArray}{ys:List ByteArray}(h:aV w B (.slice (some ⟨A,0,none⟩) (k::ys).length (k::ys).length) (k::ys)):w.cell? ⟨A,0,none⟩=some (.string k)/\TL w (.slice (some ⟨A,1,none⟩) ys.length ys.length) ys:=by
 have h0:w.ownsRow B 9 1 (.slice (some ⟨A,0,none⟩) (k::ys).length (k::ys).length) (k::ys).length ((k::ys).map Value.string):=h
 refine⟨by have:=World.ownsRow.cellAt h0 0 (by simp);simpa using this,⟨some ⟨A,1,none⟩,ys.length,rfl,Xu _,fun j hj=>⟨A,1,rfl,?_⟩⟩⟩
 have:=World.ownsRow.cellAt h0 (1+j) (by simp;omega)
 rw[this,Nat.add_comm 1 j]
 simp[hj]
theorem Pe:∀ws:List (aa),ws.length<=fO ws
 | []=>by simp
 | w::ws=>by rw[gQ,Z0];have:=Pe ws;omega
abbrev uA(t:ByteArray):Obj:=.cells #[.string t] 9 (0,0)
theorem jS{w:World}{B:Nat}{t:ByteArray}(h:w.heap[B]?=some (uA t)):w.cell? ⟨B,0,none⟩=some (.string t)/\(∀i,w.cell? ⟨B,i+1,none⟩=none)/\(∀i,w.frozen? ⟨B,i,none⟩=false)/\B<w.heap.size:=
 ⟨by simp[World.cell?,h],fun i=>by simp[World.cell?,h],fun i=>by simp[World.frozen?,h],(Z5.1 h).1⟩
theorem FL.told{w w':World}{B:Nat}{t:ByteArray}{v:Value}{L:List Fl}(h:FL w v L)(hB:w.heap[B]?=some (uA t))(hg:w.grownBy w' (some B)):FL w' v L:=by
 obtain⟨k0,k1,_⟩:=jS hB
 obtain⟨A,cap,rfl,hc,h1⟩:=h
 refine⟨A,cap,rfl,hc,fun k hk=>?_⟩
 obtain⟨b,off,e,c0,c1⟩:=h1 k hk
 have hne:b≠B:=by
  rintro rfl
  rw[k1]at c1
  cases c1
 have hr:(some B:Option Nat)≠some b:=fun e=>hne (Option.some.inj e).symm
 exact⟨b,off,e,aJ hg c0 hr,aJ hg c1 hr⟩
theorem BN.told{w w':World}{B b:Nat}{t:ByteArray}{hv:Value}{hl:List Fl}{A:Option Addr}{cap:Nat}{ps:List XP}{root:Nat}(h:BN w b hv hl A cap ps root)(hB:w.heap[B]?=some (uA t))(hg:w.grownBy w' (some B)):BN w' b hv hl A cap ps root:=by
 obtain⟨k0,k1,_⟩:=jS hB
 have noS:∀(o:Nat) (A:Option Addr) (n c:Nat),w.cell? ⟨B,o,none⟩≠some (.slice A n c):=by
  intro o A n c e
  match o with
  | 0=>rw[k0]at e;cases e
  | o+1=>rw[k1]at e;cases e
 obtain⟨Ah,ch,rfl,_⟩:=_root_.id h.hf
 have hb:(some B:Option Nat)≠some b:=fun e=>by
  obtain rfl:=Option.some.inj e
  exact noS _ _ _ _ h.c0
 refine⟨aJ hg h.c0 hb,aJ hg h.c1 hb,aJ hg h.c2 hb,h.cap,h.hf.told hB hg,h.hs,⟨fun k hk=>?_,fun p hp=>?_,h.xl.len⟩,h.rt⟩
 ·obtain⟨g,off,e,x⟩:=h.xl.at_ k hk
  have hs:=h.xl.sm ps[k] (ZX hk)
  obtain⟨Ap,cp,ep,_⟩:=_root_.id hs.fl
  have hx:(some B:Option Nat)≠some g:=fun e=>by
   obtain rfl:=Option.some.inj e
   have:=x.c0
   rw[ep]at this
   exact noS _ _ _ _ this
  exact⟨g,off,e,⟨aJ hg x.c0 hx,aJ hg x.c1 hx,aJ hg x.c2 hx,aJ hg x.c3 hx,aJ hg x.c4 hx,aJ hg x.c5 hx,aJ hg x.c6 hx,aJ hg x.c7 hx,aJ hg x.c8 hx,aJ hg x.c9 hx,aJ hg x.ca hx⟩⟩
 ·have hs:=h.xl.sm p hp
  exact⟨hs.fl.told hB hg,hs.hs,hs.bs,hs.is,hs.ad⟩
theorem DS.told{Xf:Nat->Prop}{w w':World}{d B:Nat}{t:ByteArray}{σ:Dk}(h:DS Xf w d σ)(hB:w.heap[B]?=some (uA t))(hg:w.grownBy w' (some B))(hne:d≠B):DS Xf w' d σ:=by
 obtain⟨t',q,h1,h2,h3,h4⟩:=h.blk
 refine⟨t',q,(hg.block d (Z5.1 h1).1 (fun e=>hne (Option.some.inj e))).trans h1,h2,h3,fun bb hbb=>?_⟩
 obtain⟨b,hv,hl,A,cap,ps,root,e,h5,h6,h7⟩:=h4 bb hbb
 exact⟨b,hv,hl,A,cap,ps,root,e,h5.told hB hg,h6,h7⟩
theorem Tf(w:World)(B:Nat)(v:Value):w.grownBy (w.setCell ⟨B,0,none⟩ v) (some B):=⟨rfl,rfl,rfl,by simp[World.setCell],fun k _ hn=>Below.heap_setCell _ _ _ k (fun e=>hn (by rw[e]))⟩
theorem AO{Xf:Nat->Prop}{w w1 w2 w3:World}{d B:Nat}{σ':Dk}{t:ByteArray}(h01:Below w.heap.size w w1)(h12:w1.grownBy w2 (some d))(h23:Below w2.heap.size w2 w3)(hD:DS Xf w2 d σ')(hB:w1.heap[B]?=some (uA t))(hwB:w.heap.size<=B)(hdB:d<w.heap.size)(T:ByteArray):
  DS Xf (w3.setCell ⟨B,0,none⟩ (.string T)) d σ'/\w.grownBy (w3.setCell ⟨B,0,none⟩ (.string T)) (some d)/\(w3.setCell ⟨B,0,none⟩ (.string T)).cell? ⟨B,0,none⟩=some (.string T):=by
 have hB1:=(Z5.1 hB).1
 have hB2:w2.heap[B]?=some (uA t):=(h12.block B hB1 (fun e=>by have:=Option.some.inj e;omega)).trans hB
 have hB3:=az h23 hB2
 have hgs:=Tf w3 B (.string T)
 refine⟨(hD.below h23).told hB3 hgs (by omega),⟨hgs.os.trans (h23.os.trans (h12.os.trans h01.os)),hgs.tape.trans (h23.tape.trans (h12.tape.trans h01.tape)),hgs.output.trans (h23.output.trans (h12.output.trans h01.output)),?_,fun k hk hn=>?_⟩,?_⟩
 ·exact GL h01.size (GL h12.size (GL h23.size hgs.size))
 ·have k1:k<w1.heap.size:=Ws hk h01.size
  have k2:k<w2.heap.size:=Ws k1 h12.size
  have k3:k<w3.heap.size:=Ws k2 h23.size
  exact(hgs.block k k3 (fun e=>by have:=Option.some.inj e;omega)).trans ((h23.block k k2).trans ((h12.block k k1 hn).trans (h01.block k hk)))
 ·have:=kH (i:=0) hB3 (.string T)
  simp[World.cell?,this]
theorem IJ{Xf:Nat->Prop}{w:World}{d m:Nat}{σ:Dk}(hd:DS Xf w d σ)(hE:lg w d)(hXf:∀i,Xf i->i<w.heap.size)(hm:w.heap[m]?=some (.map (qF d).toArray 16))(line:ByteArray)(hl:line.size<=2600)(hσ:σ.added.length<=2500):
  Calls prog 9 #[.map (some m),.string line] w fun e w'=>∃T:ByteArray,e=.returned (.string T)/\T.data.toList=(cu σ line.data.toList).1/\DS Xf w' d (cu σ line.data.toList).2/\w.grownBy w' (some d):=by
 have hmf:∀(fn:Fn) (first cap:Array Value) (w:World),(Instr.makeFunc fn first cap).run prog w=.ok (.func fn first cap) w:=fun _ _ _ _=>rfl
 have hbA:Below w.heap.size w (w.alloc (.cells #[.string ⟨#[]⟩] 9)):=ag.alloc af _
 have hszA:(w.alloc (.cells #[.string ⟨#[]⟩] 9)).heap.size=w.heap.size+1:=by simp
 have HF:=Box.m (Tryz.strings_FieldsFunc 34 #[] (fun _ _=>rfl) (fun r=>r==32) line (w.alloc (.cells #[.string ⟨#[]⟩] 9)) (by omega) (MP _))
 have HWd:Box (ug line.data.toList=tls (Lib.goFieldsP (fun r=>r==32) line)):=⟨rfl⟩
 generalize Lib.goFieldsP (fun r=>r==32) line=xs at HF HWd
 have HWl:Box (fO (tls xs)<=2601):=⟨by rw[<-HWd.o];exact GL (EQ _) (by rw[ae];omega)⟩
 have HD:=Box.m hd
 have HE:=Box.m hE
 have HM:=Box.m hm
 have HXf:=Box.m hXf
 have hdl:=hd.lt
 obtain⟨R,HR⟩:∃R,Box (cu σ line.data.toList=R):=⟨_,⟨rfl⟩⟩
 rw[HR.o]
 have hhA:=aP w (uA ⟨#[]⟩)
 clear hd hE hm hl hXf
 cases xs with
 | nil=>
  have HR2:Box (R=([111,107],σ)):=⟨by rw[<-HR.o];unfold cu;rw[HWd.o];rfl⟩
  clear HR HWd HWl
  go_enter_defers func9,ntmps9
  go_wp2_with fail
  refine HF.o.mono ?_
  rintro e w1 ⟨A,rfl,hA,hO,hb1⟩
  have hB1:=az hb1 hhA
  have hb01:=hbA.trans (hb1.mono (by omega))
  obtain⟨c0,-,f0,-⟩:=jS hB1
  clear HF hO hhA
  go_wp2
  obtain⟨e1,e2,c2⟩:=AO hb01 (oJ ag (some d)) (Below.refl w1.heap.size w1) (HD.o.below hb01) hB1 af hdl ⟨#[111,107]⟩
  refine leaves_cons (f:=32) (args:=#[.pointer (some ⟨w.heap.size,0,none⟩)]) (by simp) (by simp[go_sem]) ?_
  refine(zC ⟨w.heap.size,0,none⟩ _).mono ?_
  rintro e u' w'' ⟨rfl,rfl,rfl⟩
  simp[Leaves,settle,results,results9,go_sem,c2]
  rw[HR2.o]
  exact⟨rfl,e1,e2⟩
 | cons k ys=>
  have hyl:ys.length<=2601:=by
   have h2:=HWl.o
   rw[show tls (k::ys)=k.data.toList::tls ys from rfl,gQ]at h2
   have h3:=Pe (tls ys)
   rw[di]at h3
   omega
  have HFd:=Box.m (P8 d σ hσ k ys (by have:=HWl.o;rw[show tls (k::ys)=k.data.toList::tls ys from rfl,gQ]at this;omega))
  have HR1:Box (R=match nk σ k.data.toList (tls ys)with|none=>(nE 3,σ)|some r=>(Ur r.1,r.2)):=⟨by rw[<-HR.o];unfold cu;rw[HWd.o];rfl⟩
  clear HR HWd HWl
  have hn1:(k::ys).length=ys.length+1:=rfl
  have hz:(((ys.length:Int)+1)==0)=false:=beq_eq_false_iff_ne.2 (by omega)
  have hz1:(0:Int)<(ys.length:Int)+1:=by omega
  have hz2:(1:Int)<=(ys.length:Int)+1:=by omega
  rcases HFd.o with⟨hq1,hq2⟩|⟨i,g,O,σ',hq1,hq2,eg,hq4⟩
  ·have HR2:Box (R=(nE 3,σ)):=⟨by rw[HR1.o,hq1]⟩
   have HQ2:=Box.m hq2
   clear hq1 hq2 HFd HR1 hσ
   go_enter_defers func9,ntmps9
   go_wp2_with fail
   refine HF.o.mono ?_
   rintro e w1 ⟨A,rfl,hA,hO,hb1⟩
   have hB1:=az hb1 hhA
   have hb01:=hbA.trans (hb1.mono (by omega))
   obtain⟨x0,-⟩:=Pg (B:=(w.alloc (.cells #[.string ⟨#[]⟩] 9)).heap.size) hO
   have hlk:=Jz (P:=prog) (w:=w1) 29 9 _ m 16 (qF d) k .nilFunc underlying29 underlying9 (by kernel_rfl) ((hb01.block m (Z5.1 HM.o).1).trans HM.o) HQ2.o
   obtain⟨c0,-,f0,-⟩:=jS hB1
   have HB1:=Box.m hB1
   clear HF hO hhA HM HQ2 hB1
   rw[hn1]
   go_wp2
   refine leaves_cons (f:=32) (args:=#[.pointer (some ⟨w.heap.size,0,none⟩)]) (by simp) (by simp[go_sem]) ?_
   refine(vv w.heap.size _ 3 [] _ c0 (f0 0) (by decide) (HE.o.below (hb01.mono (VQ hdl))).tb).mono ?_
   rintro e u' w'' ⟨rfl,rfl,T,w3,hT,hb3,rfl⟩
   obtain⟨e1,e2,c3⟩:=AO hb01 (oJ ag (some d)) hb3 (HD.o.below hb01) HB1.o af hdl T
   simp[Leaves,settle,results,results9,go_sem,c3]
   rw[HR2.o]
   exact⟨hT,e1,e2⟩
  ·have HLow:=Box.m (KJ σ k.data.toList (tls ys) O σ' hq1)
   have HR2:Box (R=(Ur O,σ')):=⟨by rw[HR1.o,hq1]⟩
   have HQ2:=Box.m hq2
   have HDo:=Box.m hq4
   clear hq1 hq2 hq4 HFd HR1 hσ
   go_enter_defers func9,ntmps9
   go_wp2_with fail
   refine HF.o.mono ?_
   rintro e w1 ⟨A,rfl,hA,hO,hb1⟩
   have hB1:=az hb1 hhA
   have hb01:=hbA.trans (hb1.mono (by omega))
   obtain⟨x0,hX⟩:=Pg (B:=(w.alloc (.cells #[.string ⟨#[]⟩] 9)).heap.size) hO
   have hlk:=UW (P:=prog) (w:=w1) 29 9 _ m 16 (qF d) k i _ underlying29 underlying9 ((hb01.block m (Z5.1 HM.o).1).trans HM.o) HQ2.o
   have HX:Box (∀v,(v=.slice (some ⟨A,1,none⟩) ys.length ys.length\/(ys.length=0/\v=.slice (some ⟨A,0,none⟩) 0 0))->TL w1 v ys):=⟨fun v hv=>by
    rcases hv with rfl|⟨h0,rfl⟩
    ·exact hX
    ·obtain rfl:=List.eq_nil_of_length_eq_zero h0
     exact⟨some ⟨A,0,none⟩,0,rfl,Xu _,fun j hj=>absurd hj (by simp)⟩⟩
   obtain⟨c0,-,f0,-⟩:=jS hB1
   have HB1:=Box.m hB1
   clear HF hO hhA HM HQ2 hX hB1
   rw[hn1]
   go_wp2_with fail
   all_goals
    refine(HDo.o Xf w1 _ (fun i hi=>Ws (HXf.o i hi) hb01.size) (HD.o.below hb01) (HE.o.below (hb01.mono (VQ hdl))) (HX.o _ (by first|exact .inl rfl|exact .inr ⟨by first|omega|(simp only[List.length_eq_zero_iff];assumption),rfl⟩))).mono ?_
    rintro e w2 ⟨hT,hD2,hg2⟩
    have hdB:(some d:Option Nat)≠some w.heap.size:=fun e=>by have:=Option.some.inj e;omega
    have c2:=aJ hg2 c0 hdB
    have f2:w2.frozen? ⟨w.heap.size,0,none⟩=false:=by
     rw[World.frozen?_of_block (hg2.block w.heap.size (jS HB1.o).2.2.2 (fun e=>hdB e.symm))]
     exact f0 0
    have HE2:=Box.m (lg.gr (HE.o.below (hb01.mono (VQ hdl))) hg2 (Ws hdl hb01.size))
    clear c0 f0 hlk x0 HDo HX
    cases O with
    | ok t=>
     obtain⟨T,rfl,hT2⟩:=hT
     have HT:=Box.m hT2
     obtain⟨e1,e2,c3⟩:=AO hb01 hg2 (Below.refl w2.heap.size w2) hD2 HB1.o af hdl T
     have HE1:=Box.m e1
     have HE3:=Box.m e2
     clear hT2 e1 e2 hD2
     go_wp2
     refine leaves_cons (f:=32) (args:=#[.pointer (some ⟨w.heap.size,0,none⟩)]) (by simp) (by simp[go_sem]) ?_
     refine(zC ⟨w.heap.size,0,none⟩ _).mono ?_
     rintro e u' w'' ⟨rfl,rfl,rfl⟩
     simp[Leaves,settle,results,results9,go_sem,c3]
     rw[HR2.o]
     exact⟨HT.o,HE1.o,HE3.o⟩
    | error c=>
     have hT:e=dP c:=hT
     subst hT
     go_wp2
     refine leaves_cons (f:=32) (args:=#[.pointer (some ⟨w.heap.size,0,none⟩)]) (by simp) (by simp[go_sem]) ?_
     refine(vv w.heap.size _ c [] _ c2 f2 (HLow.o c rfl) HE2.o.tb).mono ?_
     rintro e u' w'' ⟨rfl,rfl,T,w3,hT,hb3,rfl⟩
     obtain⟨e1,e2,c3⟩:=AO hb01 hg2 hb3 hD2 HB1.o af hdl T
     simp[Leaves,settle,results,results9,go_sem,c3]
     rw[HR2.o]
     exact⟨hT,e1,e2⟩
end Go.Proofs.YtkldkhdigkpniaaGreatDoor
