/-
  Proved here: at every text, binderykeep.BundleBinds returns true (a bundle that is bound, and opened again, has the same parts, at the same addresses, and begins with the same; each link leads to the part to which it led, and those that lead to a part say so), and its argument reads behind the call as it read before. No condition beyond the given row's own cells.
-/
import Derived.Test.YtknhacbfddggpaaGreatDoorZ44
import Derived.Test.YtknhacbfddggpaaGreatDoorZ45
import Derived.Test.YtknhacbfddggpaaGreatDoorCards
import Derived.Test.YtknhacbfddggpaaGreatDoorTie
import Derived.ProofKit
import Derived.OpenShut
import Derived.Deep.DeepHandedRow
import Derived.Shelf.Vars
import Derived.LaidHandle
import Derived.Lib.LaidTab
import Derived.SizedLaws
import Derived.Lay
namespace Go.Proofs.YtknhacbfddggpaaGreatDoor
open Go.ChangeShapes Go.WideShapes Go.ChangeAt Go.RowKit
open Go.ChangeMaps (open_string shut_string)
theorem maxOf {W:World} (h:W.ShapedOpen Tryz.prog):∃ m,W.cell? ⟨2,0,none⟩ = some (.int .i64 m):=
 cell_of_shapedOpen_int (t:=3) (zero:=#[.int .i64 0]) h (of_decide_eq_true (by kernel_rfl)) (by kernel_rfl) rfl (by kernel_rfl) (by kernel_rfl) Tryz.underlying3
theorem max_of {W:World} (h:W.ShapedOpen Tryz.prog):Max W:=by
 obtain ⟨m,hm⟩:=maxOf h
 exact ⟨by have:=World.block_lt_of_cell? W _ hm; exact this,m,hm⟩
theorem et : Tryz.prog.globalNamed "errors.errorType" = some 0 := by kernel_rfl
theorem rtAt : (Tryz.prog.cutTypes.find? (·.1 == "internal/reflectlite.rtype")).map (·.2) = some 160 := by kernel_rfl
theorem oneRow:((List.range 291).filter fun t=>Tryz.prog.rowNamed t [101,114,114,111,114]) = [25]:=by kernel_rfl
theorem typesSize:Tryz.prog.types.size = 291:=by kernel_rfl
theorem err_of {W:World} (h:laidMetH Tryz.prog Rows.bundleBindsRow.laid W):ErrT W:=by
 have h' : laidMet Tryz.prog (Rows.bundleBindsRow.laid.filter fun x => x.2.handleName?.isNone) W ∧ handlesMet Tryz.prog [("errors.errorType", Rows.laid_errors_errorType)] W := h
 obtain ⟨name,u,ty,e1,e2,e3,e4,e5⟩:=h'.2 _ (List.mem_singleton.2 rfl)
 have en:name = [101,114,114,111,114]:=(Option.some.inj e1).symm
 subst en
 obtain rfl:=Option.some.inj (rtAt.symm.trans e2)
 have hm:ty ∈ (List.range 291).filter fun t=>Tryz.prog.rowNamed t [101,114,114,111,114]:=List.mem_filter.2 ⟨List.mem_range.2 (by rw [← typesSize]; exact e3),e4⟩
 rw [oneRow] at hm
 obtain rfl:=List.mem_singleton.1 hm
 have hh:typeHandle Tryz.prog 25 = .pointer (some ⟨11,25,none⟩):=by kernel_rfl
 rw [hh] at e5
 unfold ErrT
 simpa using World.var?_cell et e5 0
theorem gN : Tryz.prog.globalNamed "bindery/part.names" = some 1 := by kernel_rfl
theorem gNType:(Tryz.prog.globals[1]?).map (·.type) = some 158:=by kernel_rfl
theorem cellsA:Tryz.prog.cellsOf 158 = 2:=by kernel_rfl
theorem cellsS:Tryz.prog.cellsOf 9 = 1:=by kernel_rfl
theorem str_of_trod {H:Type} {enc:TypeId × Value → H} {w:World} {base:Nat} {sp:Nat → Bool} {held:Bool} {fuel:Nat} {c:Value} {y:DataW H × List MemPlace}
  (h:DataW.trod enc Tryz.prog w base sp held fuel 9 [c] = some y):∃ s:ByteArray,c = .string s∧y = (.lit (.string s.data.toList),[]):=by
 obtain ⟨s,hc,hy,_⟩:=DataW.trod_string Tryz.underlying9 h
 simp only [List.cons.injEq,and_true] at hc
 exact ⟨s,hc,hy⟩
theorem names_at {W : World} {cs : Array Value} {fuel : Nat} {p : List MemPlace} (hvar : W.var? Tryz.prog "bindery/part.names" = some cs) (hd : DataW.trod (fun _ => ()) Tryz.prog W 0 (fun _ => true) false fuel 158 cs.toList = some (Rows.laid_bindery_part_names, p)) : Names W := by
 obtain ⟨l⟩:=cs
 cases fuel with
 | zero=>simp [DataW.trod] at hd
 | succ fuel =>
  simp only [DataW.trod,Tryz.underlying158,cellsA,cellsS] at hd
  split at hd
  ·rename_i hl
   obtain ⟨c0,c1,rfl⟩:∃ c0 c1,l = [c0,c1]:=by
    match l,hl with
    | [a,b],_=>exact ⟨a,b,rfl⟩
   have e:List.range 2 = [0,1]:=rfl
   rw [e] at hd
   simp only [Option.map_eq_some_iff,List.mapM_cons,List.mapM_nil,Option.bind_eq_bind,Option.bind_eq_some_iff,Option.pure_def,Option.some.injEq] at hd
   obtain ⟨xs,⟨y0,h0,_,⟨y1,h1,_,rfl,rfl⟩,rfl⟩,hx⟩:=hd
   obtain ⟨n0,rfl,rfl⟩:=str_of_trod h0
   obtain ⟨n1,rfl,rfl⟩:=str_of_trod h1
   simp [Rows.laid_bindery_part_names] at hx
   obtain ⟨⟨e0,e1⟩,_⟩:=hx
   have f0:n0 = ctB:=bytes_eq e0
   have f1:n1 = cteA:=bytes_eq e1
   subst f0 f1
   exact ⟨by simpa using World.var?_cell gN hvar 0,by simpa using World.var?_cell gN hvar 1⟩
  ·cases hd
theorem laid_mem {P:Program} {w:World}:∀ (laid:List (String × DataW Unit)) (ps:List MemPlace),DataW.LaidVars P w laid ps → ∀ n d,(n,d) ∈ laid → ∃ g t cs fuel p,P.globalNamed n = some g∧(P.globals[g]?).map (·.type) = some t∧w.var? P n = some cs∧DataW.trod (fun _=>()) P w 0 (fun _=>true) false fuel t cs.toList = some (d,p)
 | [],_,_,n,d,h=>by cases h
 | (m,e) :: r,ps,hL,n,d,h=>by
  obtain ⟨g,t,cs,fuel,p,q,h1,h2,h3,h4,h5,_⟩:=hL
  rcases List.mem_cons.1 h with h | h
  ·cases h; exact ⟨g,t,cs,fuel,p,h1,h2,h3,h4⟩
  ·exact laid_mem r q h5 n d h
theorem laid_list {W : World} (h : laidMetH Tryz.prog Rows.bundleBindsRow.laid W) : ∃ ps, DataW.LaidVars Tryz.prog W [("math/bits.deBruijn32tab", Rows.laid_math_bits_deBruijn32tab), ("math/bits.deBruijn64tab", Rows.laid_math_bits_deBruijn64tab), ("internal/strconv.uint64pow10", Rows.laid_internal_strconv_uint64pow10), ("unicode/utf8.acceptRanges", Rows.laid_unicode_utf8_acceptRanges), ("bindery/page.leading", Rows.laid_bindery_page_leading), ("bindery/page.verbatim", Rows.laid_bindery_page_verbatim), ("bindery/page.words", Rows.laid_bindery_page_words), ("bindery/part.names", Rows.laid_bindery_part_names), ("unicode/utf8.first", Rows.laid_unicode_utf8_first)] ps := by
 have h' : laidMet Tryz.prog (Rows.bundleBindsRow.laid.filter fun x => x.2.handleName?.isNone) W ∧ handlesMet Tryz.prog [("errors.errorType", Rows.laid_errors_errorType)] W := h
 obtain ⟨⟨ps,hL,_⟩,_⟩:=h'
 exact ⟨ps,hL⟩
theorem names_of {W:World} (h:laidMetH Tryz.prog Rows.bundleBindsRow.laid W):Names W:=by
 obtain ⟨ps,hL⟩:=laid_list h
 obtain ⟨g, t, cs, fuel, p, hg, ht, hvar, hd⟩ := laid_mem _ ps hL "bindery/part.names" Rows.laid_bindery_part_names (.tail _ (.tail _ (.tail _ (.tail _ (.tail _ (.tail _ (.tail _ (.head _))))))))
 obtain rfl:=Option.some.inj (gN.symm.trans hg)
 obtain rfl:=Option.some.inj (gNType.symm.trans ht)
 exact names_at hvar hd
theorem powType:(Tryz.prog.globals[3]?).map (·.type) = some 246:=by kernel_rfl
theorem powTab:(Rows.laid_internal_strconv_uint64pow10:DataW Unit) = Lib.tabData .u64 Lib.pow10Tab:=by kernel_rfl
theorem tab_of {W:World} (h:laidMetH Tryz.prog Rows.bundleBindsRow.laid W):Tab W:=by
 obtain ⟨ps,hL⟩:=laid_list h
 obtain ⟨g, t, cs, fuel, p, hg, ht, hvar, hd⟩ := laid_mem _ ps hL "internal/strconv.uint64pow10" Rows.laid_internal_strconv_uint64pow10 (.tail _ (.tail _ (.head _)))
 obtain rfl:=Option.some.inj (gPow.symm.trans hg)
 obtain rfl:=Option.some.inj (powType.symm.trans ht)
 rw [powTab] at hd
 have hT : Lib.TabIs Tryz.prog W "internal/strconv.uint64pow10" .u64 Lib.pow10Tab := by
  unfold Lib.TabIs
  rw [hvar,← Lib.cells_of_tab Tryz.underlying246 Tryz.underlying216 (by kernel_rfl) (by kernel_rfl) hd]
 refine ⟨hT,?_⟩
 have:=hT.cell gPow 0 (by rw [Lib.pow10Tab_length]; decide)
 exact World.block_lt_of_cell? W _ this
theorem vars_of {W:World} (h:laidMetH Tryz.prog Rows.bundleBindsRow.laid W) (hsh:W.ShapedOpen Tryz.prog):PGB W W.heap.size:=by
 obtain ⟨ps,hL'⟩:=laid_list h
 have hle:Leads W:=by
  obtain ⟨g, t, cs, fuel, p, hg, ht, hvar, hd⟩ := laid_mem _ ps hL' "bindery/page.leading" Rows.laid_bindery_page_leading (.tail _ (.tail _ (.tail _ (.tail _ (.head _)))))
  obtain rfl:=Option.some.inj (pgL.symm.trans hg)
  obtain rfl:=Option.some.inj (pgLType.symm.trans ht)
  exact leads_at hvar hd
 have hve:Verbs W:=by
  obtain ⟨g, t, cs, fuel, p, hg, ht, hvar, hd⟩ := laid_mem _ ps hL' "bindery/page.verbatim" Rows.laid_bindery_page_verbatim (.tail _ (.tail _ (.tail _ (.tail _ (.tail _ (.head _))))))
  obtain rfl:=Option.some.inj (pgV.symm.trans hg)
  obtain rfl:=Option.some.inj (pgVType.symm.trans ht)
  exact verbs_at hvar hd
 have hwo:Words W:=by
  obtain ⟨g, t, cs, fuel, p, hg, ht, hvar, hd⟩ := laid_mem _ ps hL' "bindery/page.words" Rows.laid_bindery_page_words (.tail _ (.tail _ (.tail _ (.tail _ (.tail _ (.tail _ (.head _)))))))
  obtain rfl:=Option.some.inj (pgW.symm.trans hg)
  obtain rfl:=Option.some.inj (pgWType.symm.trans ht)
  exact words_at hvar hd
 obtain ⟨m,hm⟩:=maxOf hsh
 have k0:=World.block_lt_of_cell? W _ hwo.c0
 have k1:=World.block_lt_of_cell? W _ hle.c0
 have k2:=World.block_lt_of_cell? W _ hve.c0
 have k3:=World.block_lt_of_cell? W _ hm
 exact ⟨⟨hwo,hle,hve,⟨m,hm⟩,Nat.ne_of_lt k0,Nat.ne_of_lt k1,Nat.ne_of_lt k2,Nat.ne_of_lt k3⟩,k0,k1,k2,k3⟩
set_option maxRecDepth 100000 in
theorem contract (H:Type) (enc:TypeId × Value → H) (W:World) (base:Nat) (args:Array Value) (ds gs:List (DataW H)) (before:List MemPlace)
  (hval:∀ (j:Nat) t v,Tryz.f3.params[j]? = some t → args[j]? = some v → Value.okWide Tryz.prog W .any base t v)
  (hW:DataW.Whole enc Tryz.prog Tryz.f3.params.toList Rows.bundleBindsSpec.vars false W args.toList ds gs before) (hL:laidMetH Tryz.prog Rows.bundleBindsRow.laid W) (hsh:W.ShapedOpen Tryz.prog) :
  Calls Tryz.prog 3 args W fun e W'=>∃ v,e = .returned v∧Rows.bundleBindsSpec.post enc Tryz.prog Tryz.f3 false true false false W args v W':=by
 have hW':=hW
 obtain ⟨p,q,hA0,hV,rfl,hfz,hnd⟩:=hW
 have hA:DataW.TrodAll enc Tryz.prog W 0 (fun _=>true) true Tryz.f3.params.toList args.toList ds p:=hA0
 rw [Tryz.params3] at hA hval
 obtain ⟨v0,d0,rfl,rfl,h0⟩:=trodAll_one hA
 obtain ⟨rfl,rfl⟩:=trodVars_none hV
 obtain ⟨s,rfl,rfl,rfl,ws⟩:=open_string Tryz.underlying9 (hval 0 9 v0 rfl rfl) h0
 clear hA0
 simp only [List.append_nil] at hW'
 refine (law_any s W ⟨max_of hsh,names_of hL,err_of hL⟩ (vars_of hL hsh) (tab_of hL)).mono fun e W' ⟨he,hb⟩=>?_
 subst he
 refine ⟨_,rfl,?_⟩
 refine ⟨_,_,_,[],[],[],hW',trodAll_mk1 (shut_bool Tryz.underlying4 _),trodAll_mk1 (shut_string Tryz.underlying9 ws),rfl,hb.frame _,fun h=>by cases h⟩
theorem shaped0 (os:Os):((({ World.holding Tryz.prog os ⟨#[],#[],[]⟩ with heap:=(World.holding Tryz.prog os ⟨#[],#[],[]⟩).heap.modify 0 (layCells #[.iface 160 (.agg #[.pointer (some ⟨11,25,none⟩)])]) }:World).layVars Tryz.prog (Rows.bundleBindsRow.laid.filter fun x=>x.2.handleName?.isNone)).forCall (fun _ _=>0) ⟨#[],#[.string ⟨#[]⟩],[]⟩).Shaped Tryz.prog:=
 World.shaped_of_ZipB (by kernel_rfl) (by kernel_rfl)
theorem laid0 (os:Os):laidMetH Tryz.prog Rows.bundleBindsRow.laid ((({ World.holding Tryz.prog os ⟨#[],#[],[]⟩ with heap:=(World.holding Tryz.prog os ⟨#[],#[],[]⟩).heap.modify 0 (layCells #[.iface 160 (.agg #[.pointer (some ⟨11,25,none⟩)])]) }:World).layVars Tryz.prog (Rows.bundleBindsRow.laid.filter fun x=>x.2.handleName?.isNone)).forCall (fun _ _=>0) ⟨#[],#[.string ⟨#[]⟩],[]⟩).memory:=
 laidMetH_of_parts (laidMet_on _ _ _ (by kernel_rfl) (by kernel_rfl)) (by kernel_rfl)
theorem ok0 (os:Os):Input.okWideB Tryz.prog ((({ World.holding Tryz.prog os ⟨#[],#[],[]⟩ with heap:=(World.holding Tryz.prog os ⟨#[],#[],[]⟩).heap.modify 0 (layCells #[.iface 160 (.agg #[.pointer (some ⟨11,25,none⟩)])]) }:World).layVars Tryz.prog (Rows.bundleBindsRow.laid.filter fun x=>x.2.handleName?.isNone)).forCall (fun _ _=>0) ⟨#[],#[.string ⟨#[]⟩],[]⟩) 3 ⟨#[],#[.string ⟨#[]⟩],[]⟩ = true:=by kernel_rfl
theorem reads (os:Os) {H:Type} (enc:TypeId × Value → H):∃ places,DataW.whole enc Tryz.prog ((({ World.holding Tryz.prog os ⟨#[],#[],[]⟩ with heap:=(World.holding Tryz.prog os ⟨#[],#[],[]⟩).heap.modify 0 (layCells #[.iface 160 (.agg #[.pointer (some ⟨11,25,none⟩)])]) }:World).layVars Tryz.prog (Rows.bundleBindsRow.laid.filter fun x=>x.2.handleName?.isNone)).forCall (fun _ _=>0) ⟨#[],#[.string ⟨#[]⟩],[]⟩).memory Tryz.f3.params.toList Rows.bundleBindsSpec.vars false #[Value.string ⟨#[]⟩].toList 8 = some ([.lit (.string [])],[],places):=
 ⟨[],by kernel_rfl⟩
set_option maxRecDepth 100000 in
theorem lifted (os:Os) (started:os.Started) (H:Type) (enc:TypeId × Value → H) (F:Stop.Interp) :
  ReturnsInHanded {} Tryz.checked os 3 .any ((OpenSpec.ofChange Rows.bundleBindsSpec).preRow enc Tryz.prog Tryz.f3 Rows.bundleBindsRow.domain false Rows.bundleBindsRow.laid) (((OpenSpec.ofChange Rows.bundleBindsSpec).at F).post enc Tryz.prog Tryz.f3 false true false false):=by
 obtain ⟨places,hx⟩:=reads os enc
 refine returnsInHanded_of_row (C:=Tryz.checked) (s:=OpenSpec.ofChange Rows.bundleBindsSpec) own started (by kernel_rfl) Tryz.func3
  ⟨_,fun _ _=>0,⟨#[],#[.string ⟨#[]⟩],[]⟩,World.layVars_os _ _ _,shaped0 os,(Input.okWide_of_okWideB (base:=0) (ok0 os)).1,(Input.okWide_of_okWideB (ok0 os)).2,OpenSpec.preRow_of_cond 8 hx (by kernel_rfl) (fun k hk=>by cases hk) (by kernel_rfl) (laid0 os),by
   simp only [Assume.holds]
   exact ⟨by simp,by simp,fun _=>Modest.zero,by simp,by simp⟩⟩ ?_
 intro W base args ds gs before hval hW _ _ _ hL hsh _
 exact contract H enc W base args ds gs before hval hW hL hsh
theorem said:Rows.BundleBindsSaid:=
 OpenClaim.holds_of_cond 3 Tryz.f3 rfl rfl rfl rfl rfl rfl rfl ⟨rfl,rfl,rfl,rfl,rfl⟩ rfl rfl rfl rfl rfl (by kernel_rfl) Tryz.func3 (by kernel_rfl)
  (of_decide_eq_true (by kernel_rfl)) (by unfold Func.isWrapper; first | (rw [if_pos (by decide +kernel)]; kernel_rfl) | (rw [if_neg (by decide +kernel)]; exact ⟨rfl,rfl⟩))
  (fun os started H enc _ F=>by rw [OpenClaim.pre_eq_preRow]; exact lifted os started H enc F)
theorem plain (f:FuncId) (fn:Func) (hf:Tryz.pinned.checked.prog.funcNamed Rows.bundleBindsRow.func = some f) (hfn:Tryz.pinned.checked.prog.funcs[f]? = some fn) :
  true = Tryz.pinned.checked.prog.looks []∧∀ (j:Nat) t,fn.params[j]? = some t → Tryz.pinned.checked.prog.wantsStandIn t = false:=by
 obtain rfl:f = 3:=Option.some.inj ((show Tryz.prog.funcNamed Rows.bundleBindsRow.func = some 3 by kernel_rfl).symm.trans hf) |>.symm
 obtain rfl:fn = Tryz.f3:=(Option.some.inj (Tryz.func3.symm.trans hfn)).symm
 refine ⟨by kernel_rfl,fun j t ht=>?_⟩
 rw [Tryz.params3] at ht
 have ht':=Array.mem_of_getElem? ht
 simp only [List.mem_toArray,List.mem_cons,List.not_mem_nil,or_false] at ht'
 subst ht'
 exact (show Tryz.prog.wantsStandIn 9 = false by kernel_rfl)
theorem card:Rows.BundleBindsCardSaid:=
 Claim7.holds_tied_plain_at .later [] _ _ _ _ said (fun _ h=>by cases h) (by kernel_rfl) (fun _ h=>by cases h) bundleBinds_row_tie rfl ⟨rfl,rfl⟩ (by kernel_rfl) rfl plain (by kernel_rfl)
end Go.Proofs.YtknhacbfddggpaaGreatDoor
