/-
  Proved here: at every two texts, binderykeep.DeskPieces returns true (the answers to the first lines of a session are the beginning of the answers to all), and its arguments read behind the call as they read before. No condition beyond the given row's own cells.
-/
import Derived.Test.YtkldkhdigkpniaaGreatDoorZ46
import Derived.Test.YtkldkhdigkpniaaGreatDoorZ47
import Derived.Test.YtkldkhdigkpniaaGreatDoorTie
import Derived.ProofKit
import Derived.OpenShut
import Derived.Deep.DeepHandedRow
import Derived.Shelf.Vars
import Derived.LaidHandle
import Derived.Lib.LaidTab
import Derived.SizedLaws
import Derived.Lay
set_option maxRecDepth 100000
open Go.World renaming block_lt_of_cell? → GL, var?_cell → VQ
open Nat renaming ne_of_lt → Ws
namespace Go.Proofs.YtkldkhdigkpniaaGreatDoor
open Go.Proofs.Tryz
open Go.ChangeShapes Go.WideShapes Go.ChangeAt Go.RowKit
open Go.ChangeMaps (open_string shut_string)
theorem Yc{W:World}(h:W.ShapedOpen prog):∃m,W.cell? ⟨0,0,none⟩=some (.int .i64 m):=
 cell_of_shapedOpen_int (t:=3) (zero:=#[.int .i64 0]) h (of_decide_eq_true (by kernel_rfl)) (by kernel_rfl) rfl (by kernel_rfl) (by kernel_rfl) underlying3
theorem YQ{W:World}(h:W.ShapedOpen prog):Max W:=by
 obtain⟨m,hm⟩:=Yc h
 exact⟨by have:=GL W _ hm;exact this,m,hm⟩
theorem et : prog.globalNamed "errors.errorType" = some 2 := by kernel_rfl
theorem ZN : (prog.cutTypes.find? (·.1 == "internal/reflectlite.rtype")).map (·.2) = some 256 := by kernel_rfl
theorem Zb:((List.range 329).filter fun t=>prog.rowNamed t [101,114,114,111,114])=[39]:=by kernel_rfl
theorem QM:prog.types.size=329:=by kernel_rfl
theorem YZ{W:World}(h:laidMetH prog Rows.deskPiecesRow.laid W):uX W:=by
 have h' : laidMet prog (Rows.deskPiecesRow.laid.filter fun x => x.2.handleName?.isNone) W ∧ handlesMet prog [("errors.errorType", Rows.laid_errors_errorType)] W := h
 obtain⟨name,u,ty,e1,e2,e3,e4,e5⟩:=h'.2 _ (List.mem_singleton.2 rfl)
 have en:name=[101,114,114,111,114]:=(Option.some.inj e1).symm
 subst en
 obtain rfl:=Option.some.inj (ZN.symm.trans e2)
 have hm:ty∈(List.range 329).filter fun t=>prog.rowNamed t [101,114,114,111,114]:=List.mem_filter.2 ⟨List.mem_range.2 (by rw[<-QM];exact e3),e4⟩
 rw[Zb]at hm
 obtain rfl:=List.mem_singleton.1 hm
 have hh:typeHandle prog 39=.pointer (some ⟨13,39,none⟩):=by kernel_rfl
 rw[hh]at e5
 unfold uX
 simpa using VQ et e5 0
theorem gN : prog.globalNamed "bindery/part.names" = some 3 := by kernel_rfl
theorem Yt:(prog.globals[3]?).map (·.type)=some 233:=by kernel_rfl
theorem YO:prog.cellsOf 233=2:=by kernel_rfl
theorem Yo:prog.cellsOf 9=1:=by kernel_rfl
theorem zB{H:Type}{enc:TypeId×Value->H}{w:World}{base:Nat}{sp:Nat->Bool}{held:Bool}{fuel:Nat}{c:Value}{y:DataW H×List MemPlace}
  (h:DataW.trod enc prog w base sp held fuel 9 [c]=some y):∃s:ByteArray,c=.string s/\y=(.lit (.string s.data.toList),[]):=by
 obtain⟨s,hc,hy,_⟩:=DataW.trod_string underlying9 h
 simp only[List.cons.injEq,and_true]at hc
 exact⟨s,hc,hy⟩
theorem SF {W : World} {cs : Array Value} {fuel : Nat} {p : List MemPlace} (hvar : W.var? prog "bindery/part.names" = some cs) (hd : DataW.trod (fun _ => ()) prog W 0 (fun _ => true) false fuel 233 cs.toList = some (Rows.laid_bindery_part_names, p)) : j6 W := by
 obtain⟨l⟩:=cs
 cases fuel with
 | zero=>simp[DataW.trod]at hd
 | succ fuel=>
  simp only[DataW.trod,underlying233,YO,Yo]at hd
  split at hd
  ·rename_i hl
   obtain⟨c0,c1,rfl⟩:∃c0 c1,l=[c0,c1]:=by
    match l,hl with
    | [a,b],_=>exact⟨a,b,rfl⟩
   have e:List.range 2=[0,1]:=rfl
   rw[e]at hd
   simp only[Option.map_eq_some_iff,List.mapM_cons,List.mapM_nil,Option.bind_eq_bind,Option.bind_eq_some_iff,Option.pure_def,Option.some.injEq]at hd
   obtain⟨xs,⟨y0,h0,_,⟨y1,h1,_,rfl,rfl⟩,rfl⟩,hx⟩:=hd
   obtain⟨n0,rfl,rfl⟩:=zB h0
   obtain⟨n1,rfl,rfl⟩:=zB h1
   simp[Rows.laid_bindery_part_names]at hx
   obtain⟨⟨e0,e1⟩,_⟩:=hx
   have f0:n0=ctB:=aF e0
   have f1:n1=jO:=aF e1
   subst f0 f1
   exact⟨by simpa using VQ gN hvar 0,by simpa using VQ gN hvar 1⟩
  ·cases hd
theorem lU{P:Program}{w:World}:∀(laid:List (String×DataW Unit)) (ps:List MemPlace),DataW.LaidVars P w laid ps->∀n d,(n,d)∈laid->∃g t cs fuel p,P.globalNamed n=some g/\(P.globals[g]?).map (·.type)=some t/\w.var? P n=some cs/\DataW.trod (fun _=>()) P w 0 (fun _=>true) false fuel t cs.toList=some (d,p)
 | [],_,_,n,d,h=>by cases h
 | (m,e)::r,ps,hL,n,d,h=>by
  obtain⟨g,t,cs,fuel,p,q,h1,h2,h3,h4,h5,_⟩:=hL
  rcases List.mem_cons.1 h with h|h
  ·cases h;exact⟨g,t,cs,fuel,p,h1,h2,h3,h4⟩
  ·exact lU r q h5 n d h
theorem uM {W : World} (h : laidMetH prog Rows.deskPiecesRow.laid W) : ∃ ps, DataW.LaidVars prog W [("math/bits.deBruijn32tab", Rows.laid_math_bits_deBruijn32tab), ("math/bits.deBruijn64tab", Rows.laid_math_bits_deBruijn64tab), ("internal/strconv.uint64pow10", Rows.laid_internal_strconv_uint64pow10), ("unicode/utf8.acceptRanges", Rows.laid_unicode_utf8_acceptRanges), ("strconv.ErrRange", Rows.laid_strconv_ErrRange), ("strconv.ErrSyntax", Rows.laid_strconv_ErrSyntax), ("bindery/page.leading", Rows.laid_bindery_page_leading), ("bindery/page.verbatim", Rows.laid_bindery_page_verbatim), ("bindery/page.words", Rows.laid_bindery_page_words), ("bindery/part.names", Rows.laid_bindery_part_names), ("unicode/utf8.first", Rows.laid_unicode_utf8_first)] ps := by
 have h' : laidMet prog (Rows.deskPiecesRow.laid.filter fun x => x.2.handleName?.isNone) W ∧ handlesMet prog [("errors.errorType", Rows.laid_errors_errorType)] W := h
 obtain⟨⟨ps,hL,_⟩,_⟩:=h'
 exact⟨ps,hL⟩
theorem Uo{W:World}(h:laidMetH prog Rows.deskPiecesRow.laid W):j6 W:=by
 obtain⟨ps,hL⟩:=uM h
 obtain ⟨g, t, cs, fuel, p, hg, ht, hvar, hd⟩ := lU _ ps hL "bindery/part.names" Rows.laid_bindery_part_names (.tail _ (.tail _ (.tail _ (.tail _ (.tail _ (.tail _ (.tail _ (.tail _ (.tail _ (.head _))))))))))
 obtain rfl:=Option.some.inj (gN.symm.trans hg)
 obtain rfl:=Option.some.inj (Yt.symm.trans ht)
 exact SF hvar hd
theorem WC:(prog.globals[1]?).map (·.type)=some 205:=by kernel_rfl
theorem Y5:(Rows.laid_internal_strconv_uint64pow10:DataW Unit)=Lib.tabData .u64 Lib.pow10Tab:=by kernel_rfl
theorem YX{W:World}(h:laidMetH prog Rows.deskPiecesRow.laid W):Tab W:=by
 obtain⟨ps,hL⟩:=uM h
 obtain ⟨g, t, cs, fuel, p, hg, ht, hvar, hd⟩ := lU _ ps hL "internal/strconv.uint64pow10" Rows.laid_internal_strconv_uint64pow10 (.tail _ (.tail _ (.head _)))
 obtain rfl:=Option.some.inj (Yh.symm.trans hg)
 obtain rfl:=Option.some.inj (WC.symm.trans ht)
 rw[Y5]at hd
 have hT : Lib.TabIs prog W "internal/strconv.uint64pow10" .u64 Lib.pow10Tab := by
  unfold Lib.TabIs
  rw[hvar,<-Lib.cells_of_tab underlying205 underlying160 (by kernel_rfl) (by kernel_rfl) hd]
 refine⟨hT,?_⟩
 have:=hT.cell Yh 0 (by rw[Lib.pow10Tab_length];decide)
 exact GL W _ this
theorem Wu{W:World}(h:laidMetH prog Rows.deskPiecesRow.laid W)(hsh:W.ShapedOpen prog):PGB W W.heap.size:=by
 obtain⟨ps,hL'⟩:=uM h
 have hle:Fy W:=by
  obtain ⟨g, t, cs, fuel, p, hg, ht, hvar, hd⟩ := lU _ ps hL' "bindery/page.leading" Rows.laid_bindery_page_leading (.tail _ (.tail _ (.tail _ (.tail _ (.tail _ (.tail _ (.head _)))))))
  obtain rfl:=Option.some.inj (pgL.symm.trans hg)
  obtain rfl:=Option.some.inj (WJ.symm.trans ht)
  exact Vq hvar hd
 have hve:Oj W:=by
  obtain ⟨g, t, cs, fuel, p, hg, ht, hvar, hd⟩ := lU _ ps hL' "bindery/page.verbatim" Rows.laid_bindery_page_verbatim (.tail _ (.tail _ (.tail _ (.tail _ (.tail _ (.tail _ (.tail _ (.head _))))))))
  obtain rfl:=Option.some.inj (pgV.symm.trans hg)
  obtain rfl:=Option.some.inj (V7.symm.trans ht)
  exact VE hvar hd
 have hwo:kg W:=by
  obtain ⟨g, t, cs, fuel, p, hg, ht, hvar, hd⟩ := lU _ ps hL' "bindery/page.words" Rows.laid_bindery_page_words (.tail _ (.tail _ (.tail _ (.tail _ (.tail _ (.tail _ (.tail _ (.tail _ (.head _)))))))))
  obtain rfl:=Option.some.inj (pgW.symm.trans hg)
  obtain rfl:=Option.some.inj (Xo.symm.trans ht)
  exact SQ hvar hd
 obtain⟨m,hm⟩:=Yc hsh
 have k0:=GL W _ hwo.c0
 have k1:=GL W _ hle.c0
 have k2:=GL W _ hve.c0
 have k3:=GL W _ hm
 exact⟨⟨hwo,hle,hve,⟨m,hm⟩,Ws k0,Ws k1,Ws k2,Ws k3⟩,k0,k1,k2,k3⟩
theorem YD:(prog.globals[5]?).map (·.type)=some 39:=by kernel_rfl
theorem Yn:(prog.globals[4]?).map (·.type)=some 39:=by kernel_rfl
theorem SA : prog.globalNamed "strconv.ErrRange" = some 5 := by kernel_rfl
theorem Tw : prog.globalNamed "strconv.ErrSyntax" = some 4 := by kernel_rfl
theorem Wx{W:World}(h:laidMetH prog Rows.deskPiecesRow.laid W):Lx W 4/\Lx W 5:=by
 obtain⟨ps,hL⟩:=uM h
 constructor
 ·obtain ⟨g, t, cs, fuel, p, hg, ht, hvar, hd⟩ := lU _ ps hL "strconv.ErrSyntax" Rows.laid_strconv_ErrSyntax (.tail _ (.tail _ (.tail _ (.tail _ (.tail _ (.head _))))))
  obtain rfl:=Option.some.inj (Tw.symm.trans hg)
  obtain rfl:=Option.some.inj (Yn.symm.trans ht)
  obtain⟨te,pe,hc⟩:=vz hd
  obtain⟨l⟩:=cs
  have hc:l=[.iface te pe]:=hc
  subst hc
  exact⟨_,by simpa using VQ Tw hvar 0,.inr ⟨_,_,rfl⟩⟩
 ·obtain ⟨g, t, cs, fuel, p, hg, ht, hvar, hd⟩ := lU _ ps hL "strconv.ErrRange" Rows.laid_strconv_ErrRange (.tail _ (.tail _ (.tail _ (.tail _ (.head _)))))
  obtain rfl:=Option.some.inj (SA.symm.trans hg)
  obtain rfl:=Option.some.inj (YD.symm.trans ht)
  obtain⟨te,pe,hc⟩:=vz hd
  obtain⟨l⟩:=cs
  have hc:l=[.iface te pe]:=hc
  subst hc
  exact⟨_,by simpa using VQ SA hvar 0,.inr ⟨_,_,rfl⟩⟩
theorem Zf{W:World}(h:laidMetH prog Rows.deskPiecesRow.laid W)(hsh:W.ShapedOpen prog):lg W W.heap.size:=by
 have gl:mg W:=⟨YQ hsh,Uo h,YZ h⟩
 have tb:=YX h
 obtain⟨es,er⟩:=Wx h
 obtain⟨_,e1,_⟩:=es.c
 obtain⟨_,e2,_⟩:=er.c
 exact⟨gl,gl.gb,Wu h hsh,tb,tb.lt,es,GL W _ e1,er,GL W _ e2⟩
theorem contract(H:Type)(enc:TypeId×Value->H)(W:World)(base:Nat)(args:Array Value)(ds gs:List (DataW H))(before:List MemPlace)
  (hval:∀(j:Nat) t v,Tryz.f3.params[j]?=some t->args[j]?=some v->Value.okWide prog W .any base t v)
  (hW:DataW.Whole enc prog Tryz.f3.params.toList Rows.deskPiecesSpec.vars false W args.toList ds gs before)
  (hZ:(DataW.weightsEach prog (Tryz.f3.params.toList++(OpenSpec.ofChange Rows.deskPiecesSpec).bare.plain.varTypes prog) (ds++gs)).all (·<=reachBytes)=true) (hL:laidMetH prog Rows.deskPiecesRow.laid W) (hsh:W.ShapedOpen prog) :
  Calls prog 3 args W fun e W'=>∃v,e=.returned v/\Rows.deskPiecesSpec.post enc prog Tryz.f3 false true false false W args v W':=by
 have hW':=hW
 obtain⟨p,q,hA0,hV,rfl,hfz,hnd⟩:=hW
 have hA:DataW.TrodAll enc prog W 0 (fun _=>true) true Tryz.f3.params.toList args.toList ds p:=hA0
 rw[params3]at hA hval hZ
 obtain⟨v0,v1,d0,d1,p0,p1,rfl,rfl,rfl,h0,h1⟩:=trodAll_two hA
 obtain⟨rfl,rfl⟩:=trodVars_none hV
 obtain⟨s,rfl,rfl,rfl,ws⟩:=open_string underlying9 (hval 0 9 v0 rfl rfl) h0
 obtain⟨t,rfl,rfl,rfl,wt⟩:=open_string underlying9 (hval 1 9 v1 rfl rfl) h1
 have hz0:s.data.toList.length<=reachBytes:=sized_string hZ (j:=0) (t:=9) rfl rfl
 have hz1:t.data.toList.length<=reachBytes:=sized_string hZ (j:=1) (t:=9) rfl rfl
 clear hA0
 simp only[List.append_nil]at hW'
 rw[ae]at hz0 hz1
 unfold reachBytes at hz0 hz1
 refine(Tv s t W (by omega) (by omega) (Zf hL hsh)).mono fun e W' ⟨he,hb⟩=>?_
 subst he
 refine⟨_,rfl,?_⟩
 refine⟨_,_,_,[],[],[],hW',trodAll_mk1 (shut_bool underlying4 _),trodAll_mk2 (shut_string underlying9 ws) (shut_string underlying9 wt),rfl,hb.frame _,fun h=>by cases h⟩
theorem WT(os:Os):((({ World.holding prog os ⟨#[],#[],[]⟩with heap:=(World.holding prog os ⟨#[],#[],[]⟩).heap.modify 2 (xh #[.iface 256 (.agg #[.pointer (some ⟨13,39,none⟩)])]) }:World).layVars prog (Rows.deskPiecesRow.laid.filter fun x=>x.2.handleName?.isNone)).forCall (fun _ _=>0) ⟨#[],#[.string ⟨#[]⟩,.string ⟨#[]⟩],[]⟩).Shaped prog:=
 World.shaped_of_ZipB (by kernel_rfl) (by kernel_rfl)
theorem Zz(os:Os):laidMetH prog Rows.deskPiecesRow.laid ((({ World.holding prog os ⟨#[],#[],[]⟩with heap:=(World.holding prog os ⟨#[],#[],[]⟩).heap.modify 2 (xh #[.iface 256 (.agg #[.pointer (some ⟨13,39,none⟩)])]) }:World).layVars prog (Rows.deskPiecesRow.laid.filter fun x=>x.2.handleName?.isNone)).forCall (fun _ _=>0) ⟨#[],#[.string ⟨#[]⟩,.string ⟨#[]⟩],[]⟩).memory:=
 laidMetH_of_parts (NV _ _ _ (by kernel_rfl) (by kernel_rfl)) (by kernel_rfl)
theorem ok0(os:Os):Input.okWideB prog ((({ World.holding prog os ⟨#[],#[],[]⟩with heap:=(World.holding prog os ⟨#[],#[],[]⟩).heap.modify 2 (xh #[.iface 256 (.agg #[.pointer (some ⟨13,39,none⟩)])]) }:World).layVars prog (Rows.deskPiecesRow.laid.filter fun x=>x.2.handleName?.isNone)).forCall (fun _ _=>0) ⟨#[],#[.string ⟨#[]⟩,.string ⟨#[]⟩],[]⟩) 3 ⟨#[],#[.string ⟨#[]⟩,.string ⟨#[]⟩],[]⟩=true:=by kernel_rfl
theorem Zj(os:Os){H:Type}(enc:TypeId×Value->H):∃places,DataW.whole enc prog ((({ World.holding prog os ⟨#[],#[],[]⟩with heap:=(World.holding prog os ⟨#[],#[],[]⟩).heap.modify 2 (xh #[.iface 256 (.agg #[.pointer (some ⟨13,39,none⟩)])]) }:World).layVars prog (Rows.deskPiecesRow.laid.filter fun x=>x.2.handleName?.isNone)).forCall (fun _ _=>0) ⟨#[],#[.string ⟨#[]⟩,.string ⟨#[]⟩],[]⟩).memory Tryz.f3.params.toList Rows.deskPiecesSpec.vars false #[Value.string ⟨#[]⟩,Value.string ⟨#[]⟩].toList 8=some ([.lit (.string []),.lit (.string [])],[],places):=
 ⟨[],by kernel_rfl⟩
theorem lifted(os:Os)(started:os.Started)(H:Type)(enc:TypeId×Value->H)(F:Stop.Interp):
  ReturnsInHanded {} checked os 3 .any ((OpenSpec.ofChange Rows.deskPiecesSpec).preRow enc prog Tryz.f3 Rows.deskPiecesRow.domain false Rows.deskPiecesRow.laid) (((OpenSpec.ofChange Rows.deskPiecesSpec).at F).post enc prog Tryz.f3 false true false false):=by
 obtain⟨places,hx⟩:=Zj os enc
 refine returnsInHanded_of_row (C:=checked) (s:=OpenSpec.ofChange Rows.deskPiecesSpec) own started (by kernel_rfl) func3
  ⟨_,fun _ _=>0,⟨#[],#[.string ⟨#[]⟩,.string ⟨#[]⟩],[]⟩,World.layVars_os _ _ _,WT os,(Input.okWide_of_okWideB (base:=0) (ok0 os)).1,(Input.okWide_of_okWideB (ok0 os)).2,OpenSpec.preRow_of_cond 8 hx (by kernel_rfl) (fun k hk=>by cases hk) (by kernel_rfl) (Zz os),by
   simp only[Assume.holds]
   exact⟨by simp,by simp,fun _=>Modest.zero,by simp,by simp⟩⟩ ?_
 intro W base args ds gs before hval hW _ _ hZ hL hsh _
 exact contract H enc W base args ds gs before hval hW hZ hL hsh
theorem said:Rows.DeskPiecesSaid:=
 OpenClaim.holds_of_cond 3 Tryz.f3 rfl rfl rfl rfl rfl rfl rfl ⟨rfl,rfl,rfl,rfl,rfl⟩ rfl rfl rfl rfl rfl (by kernel_rfl) func3 (by kernel_rfl)
  (of_decide_eq_true (by kernel_rfl)) (by unfold Func.isWrapper;first|(rw[if_pos (by decide +kernel)];kernel_rfl)|(rw[if_neg (by decide +kernel)];exact⟨rfl,rfl⟩))
  (fun os started H enc _ F=>by rw[OpenClaim.pre_eq_preRow];exact lifted os started H enc F)
theorem plain(f:FuncId)(fn:Func)(hf:Tryz.pinned.checked.prog.funcNamed Rows.deskPiecesRow.func=some f)(hfn:Tryz.pinned.checked.prog.funcs[f]?=some fn):
  true=Tryz.pinned.checked.prog.looks []/\∀(j:Nat) t,fn.params[j]?=some t->Tryz.pinned.checked.prog.wantsStandIn t=false:=by
 obtain rfl:f=3:=Option.some.inj ((show prog.funcNamed Rows.deskPiecesRow.func=some 3 by kernel_rfl).symm.trans hf) |>.symm
 obtain rfl:fn=Tryz.f3:=(Option.some.inj (func3.symm.trans hfn)).symm
 refine⟨by kernel_rfl,fun j t ht=>?_⟩
 rw[params3]at ht
 have ht':=Array.mem_of_getElem? ht
 simp only[List.mem_toArray,List.mem_cons,List.not_mem_nil,or_false]at ht'
 rcases ht' with rfl|rfl <;>
 exact(show prog.wantsStandIn 9=false by kernel_rfl)
theorem card:Rows.DeskPiecesCardSaid:=
 Claim7.holds_tied_plain_at .later [] _ _ _ _ said (fun _ h=>by cases h) (by kernel_rfl) (fun _ h=>by cases h) deskPieces_row_tie rfl ⟨rfl,rfl⟩ (by kernel_rfl) rfl plain (by kernel_rfl)
end Go.Proofs.YtkldkhdigkpniaaGreatDoor
