import Derived.Test.YtkldkhdigkpniaaGreatDoorCards
import Derived.ProofKit
import Derived.OpenShut
import Derived.SizedLaws
import Derived.Carry
import Derived.Deep.SlicePairs
import Derived.Lay
import Derived.Shelf.Vars
import Derived.Test.YtkldkhdigkpniaaGreatDoorZ36
import Derived.SliceStrings
import Derived.ChangeSame
open List renaming mapM_cons → GL, mapM_nil → VQ, contains_iff_mem → Ws, mem_map → Xu
open Option renaming map_eq_some_iff → ZV, bind_eq_bind → ZW, bind_eq_some_iff → ZX, pure_def → ZY
open Go.World renaming var?_cell → ZZ
namespace Go.Proofs.YtkldkhdigkpniaaGreatDoor
open Go.ChangeShapes Go.WideShapes Go.ChangeAt Go.RowKit Go.Deep Go.Proofs.Tryz
theorem NV{P:Program}(w0:World)(laid:List (String×DataW Unit))(args:Array Value)(hf:w0.layFits P laid []=true)(hi:w0.layIfaces P laid (w0.layVars P laid)=true):
  laidMet P laid ((w0.layVars P laid).forCall (fun _ _=>0) ⟨#[],args,[]⟩).memory:=by
 have e1:(laid.filter fun x=>(laid.map (·.1)).contains x.1)=laid:=List.filter_eq_self.2 fun x hx=>Ws.2 (Xu.2 ⟨x,hx,rfl⟩)
 have e2:(laid.filter fun x=>!(laid.map (·.1)).contains x.1)=[]:=List.filter_eq_nil_iff.2 fun x hx=>by rw[Ws.2 (Xu.2 ⟨x,hx,rfl⟩)];simp
 have h:laidMet P laid (w0.layVars P laid):=laidMet_layVars (w0:=w0) (laid.map (·.1)) [] (by rw[e1]) (by rw[e1];exact hf) (by rw[e1];exact hi) (by rw[e2];exact LaidIn.none)
 exact h.of_heap (by simp[World.memory,World.forCall,Input.heap])
def xh(cells:Array Value):Obj->Obj
 | .cells _ t frozen=>.cells cells t frozen
 | o=>o
theorem own:ownKnob prog.godebug=none:=by kernel_rfl
end Go.Proofs.YtkldkhdigkpniaaGreatDoor
namespace Go.Proofs.YtkldkhdigkpniaaGreatDoor
open Go.ChangeShapes Go.WideShapes Go.ChangeAt Go.RowKit Go.Proofs.Tryz
theorem oD{H:Type}{enc:TypeId×Value->H}{w:World}{base:Nat}{sp:Nat->Bool}{held:Bool}{fuel:Nat}{c:Value}{y:DataW H×List MemPlace}
  (h:DataW.trod enc prog w base sp held fuel 9 [c]=some y):∃s:ByteArray,c=.string s/\y=(.lit (.string s.data.toList),[]):=by
 obtain⟨s,hc,hy,_⟩:=DataW.trod_string underlying9 h
 simp only[List.cons.injEq,and_true]at hc
 exact⟨s,hc,hy⟩
theorem GJ:prog.cellsOf 9=1:=by kernel_rfl
theorem VZ:prog.cellsOf 296=3:=by kernel_rfl
theorem WH:prog.cellsOf 274=4:=by kernel_rfl
theorem VT:prog.cellsOf 301=10:=by kernel_rfl
theorem XI:prog.cellsOf 284=2:=by kernel_rfl
theorem Wo:prog.cellsOf 5=1:=by kernel_rfl
theorem pgL : prog.globalNamed "bindery/page.leading" = some 11 := by kernel_rfl
theorem pgV : prog.globalNamed "bindery/page.verbatim" = some 6 := by kernel_rfl
theorem pgW : prog.globalNamed "bindery/page.words" = some 12 := by kernel_rfl
theorem WJ:(prog.globals[11]?).map (·.type)=some 296:=by kernel_rfl
theorem V7:(prog.globals[6]?).map (·.type)=some 274:=by kernel_rfl
theorem Xo:(prog.globals[12]?).map (·.type)=some 301:=by kernel_rfl
theorem Vq {W : World} {cs : Array Value} {fuel : Nat} {p : List MemPlace} (hvar : W.var? prog "bindery/page.leading" = some cs) (hd : DataW.trod (fun _ => ()) prog W 0 (fun _ => true) false fuel 296 cs.toList = some (Rows.laid_bindery_page_leading, p)) : Fy W := by
 obtain⟨l⟩:=cs
 cases fuel with
 | zero=>simp[DataW.trod]at hd
 | succ fuel=>
  simp only[DataW.trod,underlying296,VZ,GJ]at hd
  split at hd
  ·rename_i hl
   obtain⟨c0,c1,c2,rfl⟩:∃c0 c1 c2,l=[c0,c1,c2]:=by
    match l,hl with
    | [a,b,c],_=>exact⟨a,b,c,rfl⟩
   have e:List.range 3=[0,1,2]:=rfl
   rw[e]at hd
   simp only[ZV,GL,VQ,ZW,ZX,ZY,Option.some.injEq]at hd
   obtain⟨xs,⟨y0,h0,_,⟨y1,h1,_,⟨y2,h2,_,rfl,rfl⟩,rfl⟩,rfl⟩,hx⟩:=hd
   obtain⟨n0,rfl,rfl⟩:=oD h0
   obtain⟨n1,rfl,rfl⟩:=oD h1
   obtain⟨n2,rfl,rfl⟩:=oD h2
   simp[Rows.laid_bindery_page_leading]at hx
   obtain⟨⟨e0,e1,e2⟩,_⟩:=hx
   have f0:n0=bgA:=aF e0
   have f1:n1=hrA:=aF e1
   have f2:n2=srA:=aF e2
   subst f0 f1 f2
   exact⟨by simpa using ZZ pgL hvar 0,by simpa using ZZ pgL hvar 1,by simpa using ZZ pgL hvar 2⟩
  ·cases hd
theorem VE {W : World} {cs : Array Value} {fuel : Nat} {p : List MemPlace} (hvar : W.var? prog "bindery/page.verbatim" = some cs) (hd : DataW.trod (fun _ => ()) prog W 0 (fun _ => true) false fuel 274 cs.toList = some (Rows.laid_bindery_page_verbatim, p)) : Oj W := by
 obtain⟨l⟩:=cs
 cases fuel with
 | zero=>simp[DataW.trod]at hd
 | succ fuel=>
  simp only[DataW.trod,underlying274,WH,GJ]at hd
  split at hd
  ·rename_i hl
   obtain⟨c0,c1,c2,c3,rfl⟩:∃c0 c1 c2 c3,l=[c0,c1,c2,c3]:=by
    match l,hl with
    | [a,b,c,d],_=>exact⟨a,b,c,d,rfl⟩
   have e:List.range 4=[0,1,2,3]:=rfl
   rw[e]at hd
   simp only[ZV,GL,VQ,ZW,ZX,ZY,Option.some.injEq]at hd
   obtain⟨xs,⟨y0,h0,_,⟨y1,h1,_,⟨y2,h2,_,⟨y3,h3,_,rfl,rfl⟩,rfl⟩,rfl⟩,rfl⟩,hx⟩:=hd
   obtain⟨n0,rfl,rfl⟩:=oD h0
   obtain⟨n1,rfl,rfl⟩:=oD h1
   obtain⟨n2,rfl,rfl⟩:=oD h2
   obtain⟨n3,rfl,rfl⟩:=oD h3
   simp[Rows.laid_bindery_page_verbatim]at hx
   obtain⟨⟨e0,e1,e2,e3⟩,_⟩:=hx
   have f0:n0=scA:=aF e0
   have f1:n1=stA:=aF e1
   have f2:n2=txA:=aF e2
   have f3:n3=tiA:=aF e3
   subst f0 f1 f2 f3
   exact⟨by simpa using ZZ pgV hvar 0,by simpa using ZZ pgV hvar 1,by simpa using ZZ pgV hvar 2,by simpa using ZZ pgV hvar 3⟩
  ·cases hd
theorem tV{W:World}{fuel:Nat}{c d:Value}{y:DataW Unit×List MemPlace}(h:DataW.trod (fun _=>()) prog W 0 (fun _=>true) false fuel 284 [c,d]=some y):∃(z:Int) (s:ByteArray),c=.int .u8 z/\d=.string s/\y=(.agg [.lit (.int .u8 z),.lit (.string s.data.toList)],[]):=by
 obtain⟨y0,y1,n,rfl,_,h0,h1⟩:=trod_struct2 underlying284 h
 have h0':DataW.trod (fun _=>()) prog W 0 (fun _=>true) false n 5 [c]=some y0:=by
  rw[<-h0,Wo];rfl
 have h1':DataW.trod (fun _=>()) prog W 0 (fun _=>true) false n 9 [d]=some y1:=by
  rw[<-h1,GJ];rfl
 obtain⟨s,rfl,rfl⟩:=oD h1'
 obtain⟨z,hz,rfl,_⟩:=DataW.trod_int underlying5 h0'
 simp only[List.cons.injEq,and_true]at hz
 exact⟨z,s,hz,rfl,rfl⟩
theorem SQ {W : World} {cs : Array Value} {fuel : Nat} {p : List MemPlace} (hvar : W.var? prog "bindery/page.words" = some cs) (hd : DataW.trod (fun _ => ()) prog W 0 (fun _ => true) false fuel 301 cs.toList = some (Rows.laid_bindery_page_words, p)) : kg W := by
 obtain⟨l⟩:=cs
 cases fuel with
 | zero=>simp[DataW.trod]at hd
 | succ fuel=>
  simp only[DataW.trod,underlying301,VT,XI]at hd
  split at hd
  ·rename_i hl
   obtain⟨c0,c1,c2,c3,c4,c5,c6,c7,c8,c9,rfl⟩:∃c0 c1 c2 c3 c4 c5 c6 c7 c8 c9,l=[c0,c1,c2,c3,c4,c5,c6,c7,c8,c9]:=by
    match l,hl with
    | [a0,a1,a2,a3,a4,a5,a6,a7,a8,a9],_=>exact⟨a0,a1,a2,a3,a4,a5,a6,a7,a8,a9,rfl⟩
   have e:List.range 5=[0,1,2,3,4]:=rfl
   rw[e]at hd
   simp only[ZV,GL,VQ,ZW,ZX,ZY,Option.some.injEq]at hd
   obtain⟨xs,⟨y0,h0,_,⟨y1,h1,_,⟨y2,h2,_,⟨y3,h3,_,⟨y4,h4,_,rfl,rfl⟩,rfl⟩,rfl⟩,rfl⟩,rfl⟩,hx⟩:=hd
   obtain⟨z0,n0,rfl,rfl,rfl⟩:=tV h0
   obtain⟨z1,n1,rfl,rfl,rfl⟩:=tV h1
   obtain⟨z2,n2,rfl,rfl,rfl⟩:=tV h2
   obtain⟨z3,n3,rfl,rfl,rfl⟩:=tV h3
   obtain⟨z4,n4,rfl,rfl,rfl⟩:=tV h4
   simp[Rows.laid_bindery_page_words]at hx
   obtain⟨⟨⟨rfl,e0⟩,⟨rfl,e1⟩,⟨rfl,e2⟩,⟨rfl,e3⟩,⟨rfl,e4⟩⟩,_⟩:=hx
   have f0:n0=XF:=aF e0
   have f1:n1=OY:=aF e1
   have f2:n2=O4:=aF e2
   have f3:n3=ltA:=aF e3
   have f4:n4=gtA:=aF e4
   subst f0 f1 f2 f3 f4
   exact⟨by simpa using ZZ pgW hvar 0,by simpa using ZZ pgW hvar 1,by simpa using ZZ pgW hvar 2,by simpa using ZZ pgW hvar 3,by simpa using ZZ pgW hvar 4,by simpa using ZZ pgW hvar 5,by simpa using ZZ pgW hvar 6,by simpa using ZZ pgW hvar 7,by simpa using ZZ pgW hvar 8,by simpa using ZZ pgW hvar 9⟩
  ·cases hd
theorem vz{w:World}{fuel:Nat}{cs:List Value}{name:String}{d:DataW Unit}{p:List MemPlace}
  (h:DataW.trod (fun _=>()) prog w 0 (fun _=>true) false fuel 39 cs=some (.iface name d,p)):∃te pe,cs=[.iface te pe]:=by
 cases fuel with
 | zero=>simp[DataW.trod]at h
 | succ fuel=>
  simp only[DataW.trod,underlying39]at h
  rcases cs with _|⟨v,_|⟨v2,r⟩⟩
  ·simp at h
  ·cases v<;>first|exact⟨_,_,rfl⟩|(simp at h;done)
  ·simp at h
end Go.Proofs.YtkldkhdigkpniaaGreatDoor
