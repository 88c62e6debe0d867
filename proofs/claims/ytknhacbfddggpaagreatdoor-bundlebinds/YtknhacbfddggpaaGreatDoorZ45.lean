import Derived.Test.YtknhacbfddggpaaGreatDoorZ4
import Derived.Test.YtknhacbfddggpaaGreatDoorCards
import Derived.ProofKit
import Derived.OpenShut
import Derived.SizedLaws
import Derived.Carry
import Derived.Deep.SlicePairs
import Derived.Lay
import Derived.Shelf.Vars
import Derived.Test.YtknhacbfddggpaaGreatDoorZ36
import Derived.SliceStrings
import Derived.ChangeSame
namespace Go.Proofs.YtknhacbfddggpaaGreatDoor
open Go.ChangeShapes Go.WideShapes Go.ChangeAt Go.RowKit Go.Deep
theorem laidMet_on {P:Program} (w0:World) (laid:List (String × DataW Unit)) (args:Array Value) (hf:w0.layFits P laid [] = true) (hi:w0.layIfaces P laid (w0.layVars P laid) = true) :
  laidMet P laid ((w0.layVars P laid).forCall (fun _ _=>0) ⟨#[],args,[]⟩).memory:=by
 have e1:(laid.filter fun x=>(laid.map (·.1)).contains x.1) = laid:=List.filter_eq_self.2 fun x hx=>List.contains_iff_mem.2 (List.mem_map.2 ⟨x,hx,rfl⟩)
 have e2:(laid.filter fun x=>!(laid.map (·.1)).contains x.1) = []:=List.filter_eq_nil_iff.2 fun x hx=>by rw [List.contains_iff_mem.2 (List.mem_map.2 ⟨x,hx,rfl⟩)]; simp
 have h:laidMet P laid (w0.layVars P laid):=laidMet_layVars (w0:=w0) (laid.map (·.1)) [] (by rw [e1]) (by rw [e1]; exact hf) (by rw [e1]; exact hi) (by rw [e2]; exact LaidIn.none)
 exact h.of_heap (by simp [World.memory,World.forCall,Input.heap])
def layCells (cells:Array Value):Obj → Obj
 | .cells _ t frozen=>.cells cells t frozen
 | o=>o
theorem own:ownKnob Tryz.prog.godebug = none:=by kernel_rfl
end Go.Proofs.YtknhacbfddggpaaGreatDoor
namespace Go.Proofs.YtknhacbfddggpaaGreatDoor
open Go.ChangeShapes Go.WideShapes Go.ChangeAt Go.RowKit
theorem pstr_of {H:Type} {enc:TypeId × Value → H} {w:World} {base:Nat} {sp:Nat → Bool} {held:Bool} {fuel:Nat} {c:Value} {y:DataW H × List MemPlace}
  (h:DataW.trod enc Tryz.prog w base sp held fuel 9 [c] = some y):∃ s:ByteArray,c = .string s∧y = (.lit (.string s.data.toList),[]):=by
 obtain ⟨s,hc,hy,_⟩:=DataW.trod_string Tryz.underlying9 h
 simp only [List.cons.injEq,and_true] at hc
 exact ⟨s,hc,hy⟩
theorem pcellsS:Tryz.prog.cellsOf 9 = 1:=by kernel_rfl
theorem pcells3:Tryz.prog.cellsOf 262 = 3:=by kernel_rfl
theorem pcells4:Tryz.prog.cellsOf 253 = 4:=by kernel_rfl
theorem pcells5:Tryz.prog.cellsOf 249 = 10:=by kernel_rfl
theorem pcellsW:Tryz.prog.cellsOf 225 = 2:=by kernel_rfl
theorem pcellsB:Tryz.prog.cellsOf 5 = 1:=by kernel_rfl
theorem pgL : Tryz.prog.globalNamed "bindery/page.leading" = some 8 := by kernel_rfl
theorem pgV : Tryz.prog.globalNamed "bindery/page.verbatim" = some 5 := by kernel_rfl
theorem pgW : Tryz.prog.globalNamed "bindery/page.words" = some 4 := by kernel_rfl
theorem pgLType:(Tryz.prog.globals[8]?).map (·.type) = some 262:=by kernel_rfl
theorem pgVType:(Tryz.prog.globals[5]?).map (·.type) = some 253:=by kernel_rfl
theorem pgWType:(Tryz.prog.globals[4]?).map (·.type) = some 249:=by kernel_rfl
theorem leads_at {W : World} {cs : Array Value} {fuel : Nat} {p : List MemPlace} (hvar : W.var? Tryz.prog "bindery/page.leading" = some cs) (hd : DataW.trod (fun _ => ()) Tryz.prog W 0 (fun _ => true) false fuel 262 cs.toList = some (Rows.laid_bindery_page_leading, p)) : Leads W := by
 obtain ⟨l⟩:=cs
 cases fuel with
 | zero=>simp [DataW.trod] at hd
 | succ fuel =>
  simp only [DataW.trod,Tryz.underlying262,pcells3,pcellsS] at hd
  split at hd
  ·rename_i hl
   obtain ⟨c0,c1,c2,rfl⟩:∃ c0 c1 c2,l = [c0,c1,c2]:=by
    match l,hl with
    | [a,b,c],_=>exact ⟨a,b,c,rfl⟩
   have e:List.range 3 = [0,1,2]:=rfl
   rw [e] at hd
   simp only [Option.map_eq_some_iff,List.mapM_cons,List.mapM_nil,Option.bind_eq_bind,Option.bind_eq_some_iff,Option.pure_def,Option.some.injEq] at hd
   obtain ⟨xs,⟨y0,h0,_,⟨y1,h1,_,⟨y2,h2,_,rfl,rfl⟩,rfl⟩,rfl⟩,hx⟩:=hd
   obtain ⟨n0,rfl,rfl⟩:=pstr_of h0
   obtain ⟨n1,rfl,rfl⟩:=pstr_of h1
   obtain ⟨n2,rfl,rfl⟩:=pstr_of h2
   simp [Rows.laid_bindery_page_leading] at hx
   obtain ⟨⟨e0,e1,e2⟩,_⟩:=hx
   have f0:n0 = bgA:=bytes_eq e0
   have f1:n1 = hrA:=bytes_eq e1
   have f2:n2 = srA:=bytes_eq e2
   subst f0 f1 f2
   exact ⟨by simpa using World.var?_cell pgL hvar 0,by simpa using World.var?_cell pgL hvar 1,by simpa using World.var?_cell pgL hvar 2⟩
  ·cases hd
theorem verbs_at {W : World} {cs : Array Value} {fuel : Nat} {p : List MemPlace} (hvar : W.var? Tryz.prog "bindery/page.verbatim" = some cs) (hd : DataW.trod (fun _ => ()) Tryz.prog W 0 (fun _ => true) false fuel 253 cs.toList = some (Rows.laid_bindery_page_verbatim, p)) : Verbs W := by
 obtain ⟨l⟩:=cs
 cases fuel with
 | zero=>simp [DataW.trod] at hd
 | succ fuel =>
  simp only [DataW.trod,Tryz.underlying253,pcells4,pcellsS] at hd
  split at hd
  ·rename_i hl
   obtain ⟨c0,c1,c2,c3,rfl⟩:∃ c0 c1 c2 c3,l = [c0,c1,c2,c3]:=by
    match l,hl with
    | [a,b,c,d],_=>exact ⟨a,b,c,d,rfl⟩
   have e:List.range 4 = [0,1,2,3]:=rfl
   rw [e] at hd
   simp only [Option.map_eq_some_iff,List.mapM_cons,List.mapM_nil,Option.bind_eq_bind,Option.bind_eq_some_iff,Option.pure_def,Option.some.injEq] at hd
   obtain ⟨xs,⟨y0,h0,_,⟨y1,h1,_,⟨y2,h2,_,⟨y3,h3,_,rfl,rfl⟩,rfl⟩,rfl⟩,rfl⟩,hx⟩:=hd
   obtain ⟨n0,rfl,rfl⟩:=pstr_of h0
   obtain ⟨n1,rfl,rfl⟩:=pstr_of h1
   obtain ⟨n2,rfl,rfl⟩:=pstr_of h2
   obtain ⟨n3,rfl,rfl⟩:=pstr_of h3
   simp [Rows.laid_bindery_page_verbatim] at hx
   obtain ⟨⟨e0,e1,e2,e3⟩,_⟩:=hx
   have f0:n0 = scA:=bytes_eq e0
   have f1:n1 = stA:=bytes_eq e1
   have f2:n2 = txA:=bytes_eq e2
   have f3:n3 = tiA:=bytes_eq e3
   subst f0 f1 f2 f3
   exact ⟨by simpa using World.var?_cell pgV hvar 0,by simpa using World.var?_cell pgV hvar 1,by simpa using World.var?_cell pgV hvar 2,by simpa using World.var?_cell pgV hvar 3⟩
  ·cases hd
theorem pword_of {W:World} {fuel:Nat} {c d:Value} {y:DataW Unit × List MemPlace} (h:DataW.trod (fun _=>()) Tryz.prog W 0 (fun _=>true) false fuel 225 [c,d] = some y):∃ (z:Int) (s:ByteArray),c = .int .u8 z∧d = .string s∧y = (.agg [.lit (.int .u8 z),.lit (.string s.data.toList)],[]):=by
 obtain ⟨y0,y1,n,rfl,_,h0,h1⟩:=trod_struct2 Tryz.underlying225 h
 have h0':DataW.trod (fun _=>()) Tryz.prog W 0 (fun _=>true) false n 5 [c] = some y0:=by
  rw [← h0,pcellsB]; rfl
 have h1':DataW.trod (fun _=>()) Tryz.prog W 0 (fun _=>true) false n 9 [d] = some y1:=by
  rw [← h1,pcellsS]; rfl
 obtain ⟨s,rfl,rfl⟩:=pstr_of h1'
 obtain ⟨z,hz,rfl,_⟩:=DataW.trod_int Tryz.underlying5 h0'
 simp only [List.cons.injEq,and_true] at hz
 exact ⟨z,s,hz,rfl,rfl⟩
theorem words_at {W : World} {cs : Array Value} {fuel : Nat} {p : List MemPlace} (hvar : W.var? Tryz.prog "bindery/page.words" = some cs) (hd : DataW.trod (fun _ => ()) Tryz.prog W 0 (fun _ => true) false fuel 249 cs.toList = some (Rows.laid_bindery_page_words, p)) : Words W := by
 obtain ⟨l⟩:=cs
 cases fuel with
 | zero=>simp [DataW.trod] at hd
 | succ fuel =>
  simp only [DataW.trod,Tryz.underlying249,pcells5,pcellsW] at hd
  split at hd
  ·rename_i hl
   obtain ⟨c0,c1,c2,c3,c4,c5,c6,c7,c8,c9,rfl⟩:∃ c0 c1 c2 c3 c4 c5 c6 c7 c8 c9,l = [c0,c1,c2,c3,c4,c5,c6,c7,c8,c9]:=by
    match l,hl with
    | [a0,a1,a2,a3,a4,a5,a6,a7,a8,a9],_=>exact ⟨a0,a1,a2,a3,a4,a5,a6,a7,a8,a9,rfl⟩
   have e:List.range 5 = [0,1,2,3,4]:=rfl
   rw [e] at hd
   simp only [Option.map_eq_some_iff,List.mapM_cons,List.mapM_nil,Option.bind_eq_bind,Option.bind_eq_some_iff,Option.pure_def,Option.some.injEq] at hd
   obtain ⟨xs,⟨y0,h0,_,⟨y1,h1,_,⟨y2,h2,_,⟨y3,h3,_,⟨y4,h4,_,rfl,rfl⟩,rfl⟩,rfl⟩,rfl⟩,rfl⟩,hx⟩:=hd
   obtain ⟨z0,n0,rfl,rfl,rfl⟩:=pword_of h0
   obtain ⟨z1,n1,rfl,rfl,rfl⟩:=pword_of h1
   obtain ⟨z2,n2,rfl,rfl,rfl⟩:=pword_of h2
   obtain ⟨z3,n3,rfl,rfl,rfl⟩:=pword_of h3
   obtain ⟨z4,n4,rfl,rfl,rfl⟩:=pword_of h4
   simp [Rows.laid_bindery_page_words] at hx
   obtain ⟨⟨⟨rfl,e0⟩,⟨rfl,e1⟩,⟨rfl,e2⟩,⟨rfl,e3⟩,⟨rfl,e4⟩⟩,_⟩:=hx
   have f0:n0 = ampA:=bytes_eq e0
   have f1:n1 = quotA:=bytes_eq e1
   have f2:n2 = aposA:=bytes_eq e2
   have f3:n3 = ltA:=bytes_eq e3
   have f4:n4 = gtA:=bytes_eq e4
   subst f0 f1 f2 f3 f4
   exact ⟨by simpa using World.var?_cell pgW hvar 0,by simpa using World.var?_cell pgW hvar 1,by simpa using World.var?_cell pgW hvar 2,by simpa using World.var?_cell pgW hvar 3,by simpa using World.var?_cell pgW hvar 4,by simpa using World.var?_cell pgW hvar 5,by simpa using World.var?_cell pgW hvar 6,by simpa using World.var?_cell pgW hvar 7,by simpa using World.var?_cell pgW hvar 8,by simpa using World.var?_cell pgW hvar 9⟩
  ·cases hd
end Go.Proofs.YtknhacbfddggpaaGreatDoor
