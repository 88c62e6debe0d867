import Derived.Test.YtkldkhdigkpniaaGreatDoorZ4
import Derived.LaidEql
import Derived.Stop.Asserts
import Derived.RowKitTokens
set_option maxHeartbeats 4000000
open Go.World renaming cell?_alloc_lt → GL, frozen?_alloc_old → VQ, block_lt_of_cell? → Ws, cell?_alloc_at → Xu
namespace Go.Proofs.YtkldkhdigkpniaaGreatDoor
open Go.RowKit Go.Extern.Stop Go.Stop Go.Extern Go.Proofs.Tryz
theorem JC(t:Addr)(w:World):(ReflectliteValue.unpack (.iface 168 (.pointer (some t)))).run prog w
  = .ok (.agg #[.pointer (some ⟨13,168,none⟩),.pointer (some ⟨w.heap.size,0,none⟩),.int .u64 150]) (w.alloc (.cells #[.pointer (some t)] 168)):=by kernel_rfl
theorem Ye (a : Addr) (w : World) : (ReflectliteValue.methodAny (ReflectliteValue.valueError "reflectlite.Value.Type" 0) (fun t _ _ _ => ReflectliteType.toType t) #[.agg #[.pointer (some ⟨13, 168, none⟩), .pointer (some a), .int .u64 150]]).run prog w
  = .ok (.iface 256 (.agg #[.pointer (some ⟨13,168,none⟩)])) w:=by kernel_rfl
theorem Cm (h : Value) (w : World) : (Go.method 429 256 (.agg #[h]) "Kind").run prog w = .ok (293, h) w := by kernel_rfl
theorem X8(w:World):((ReflectliteType.abiMethod fun t=>(fun a:Nat=>Value.int IntKind.u8 (a:Int)) <$> Rtype.kind t) #[.pointer (some ⟨13,168,none⟩)]).run prog w=.ok (.int .u8 22) w:=by kernel_rfl
theorem X5(w:World):((ReflectliteType.abiMethod fun t=>(fun a:Nat=>Value.int IntKind.u8 (a:Int)) <$> Rtype.kind t) #[.pointer (some ⟨13,25,none⟩)]).run prog w=.ok (.int .u8 2) w:=by kernel_rfl
theorem rlm(z:Sem Value)(f:TypeId->Addr->Nat->Nat->Sem Value)(v:Value):
  ReflectliteValue.method z f #[v]=(do match <-ReflectliteValue.parts v with|none=>z|some (t,a,fl)=>f t a fl (fl % 32)):=rfl
theorem Ti(a:Addr)(w:World):(ReflectliteValue.parts (.agg #[.pointer (some ⟨13,168,none⟩),.pointer (some a),.int .u64 150])).run prog w=.ok (some (168,a,150)) w:=by kernel_rfl
theorem VC(a p:Addr)(W:World)(ha:W.cell? a=some (.pointer (some p))):
  (ReflectliteValue.method (ReflectliteValue.valueError "reflectlite.Value.IsNil" 0) ReflectliteValue.isNil #[.agg #[.pointer (some ⟨13, 168, none⟩), .pointer (some a), .int .u64 150]]).run prog W = .ok (.bool false) W := by
 rw[rlm]
 simp only[Sem.run_bind,Ti,Result.andThen]
 simp[ReflectliteValue.isNil,loadVar,isAgg,underlying,underlying168,ha,Result.andThen]
theorem Cc (h : Value) (w : World) : (Go.method 429 256 (.agg #[h]) "Elem").run prog w = .ok (309, .agg #[h]) w := by kernel_rfl
theorem pX (h : Value) (w : World) : (Go.method 429 256 (.agg #[h]) "Implements").run prog w = .ok (310, .agg #[h]) w := by kernel_rfl
theorem mY (h : Value) (w : World) : (Go.method 429 256 (.agg #[h]) "AssignableTo").run prog w = .ok (307, .agg #[h]) w := by kernel_rfl
theorem XN(w:World):(ReflectliteType.method ReflectliteType.elem #[.agg #[.pointer (some ⟨13,168,none⟩)]]).run prog w=.ok (.iface 256 (.agg #[.pointer (some ⟨13,25,none⟩)])) w:=by kernel_rfl
theorem Ab (w : World) : (ReflectliteType.relation "Implements" ReflectliteType.implements_ #[.agg #[.pointer (some ⟨13, 25, none⟩)], .iface 256 (.agg #[.pointer (some ⟨13, 39, none⟩)])]).run prog w = .ok (.bool true) w := by kernel_rfl
theorem OX(v:Value)(w:World):(ReflectliteType.typeOf #[.iface 25 v]).run prog w=.ok (.iface 256 (.agg #[.pointer (some ⟨13,25,none⟩)])) w:=by kernel_rfl
theorem zy (w : World) : (ReflectliteType.relation "AssignableTo" ReflectliteType.assignableTo #[.agg #[.pointer (some ⟨13, 25, none⟩)], .iface 256 (.agg #[.pointer (some ⟨13, 25, none⟩)])]).run prog w = .ok (.bool true) w := by kernel_rfl
theorem II(n:Int)(w:World):(ReflectliteValue.unpack (.iface 25 (.int .i64 n))).run prog w
  = .ok (.agg #[.pointer (some ⟨13,25,none⟩),.pointer (some ⟨w.heap.size,0,none⟩),.int .u64 130]) (w.alloc (.cells #[.int .i64 n] 25)):=by kernel_rfl
theorem Xc(w:World):(Rtype.elem? 168).run prog w=.ok (some 25) w:=by kernel_rfl
theorem mkE(p:Addr)(w:World):(ReflectliteValue.mk 25 p ReflectliteValue.flagAddr).run prog w=.ok (.agg #[.pointer (some ⟨13,25,none⟩),.pointer (some p),.int .u64 386]) w:=by kernel_rfl
theorem TF(a p:Addr)(W:World)(ha:W.cell? a=some (.pointer (some p))):
  (ReflectliteValue.method (ReflectliteValue.valueError "reflectlite.Value.Elem" 0) ReflectliteValue.elem #[.agg #[.pointer (some ⟨13, 168, none⟩), .pointer (some a), .int .u64 150]]).run prog W
   = .ok (.agg #[.pointer (some ⟨13,25,none⟩),.pointer (some p),.int .u64 386]) W:=by
 rw[rlm]
 simp only[Sem.run_bind,Ti,Result.andThen]
 simp[ReflectliteValue.elem,loadVar,isAgg,underlying,underlying168,ha,Result.andThen,Xc,mkE]
theorem rls(v x:Value):∃(u1:Sem Value) (u2:TypeId->Addr->Nat->TypeId->Addr->Sem Value) (g:TypeId->Addr->TypeId->Value->Sem Value),ReflectliteValue.set #[v,x]=(do
  let p <-ReflectliteValue.parts v
  let q <-ReflectliteValue.parts x
  match(p,q)with
  | (some (dst,a,fl),some (src,b,_))=>
   if (fl / ReflectliteValue.flagAddr % 2==0)=true then u2 dst a fl src b
   else do
    let val <-loadVar src b
    let c <-Rtype.directlyAssignable dst src
    if c=true then do
     storeVar dst a val
     pure (.tuple #[])
    else g dst a src val
  | _=>u1):=⟨_,_,_,rfl⟩
theorem Xn(a:Addr)(w:World):(ReflectliteValue.parts (.agg #[.pointer (some ⟨13,25,none⟩),.pointer (some a),.int .u64 386])).run prog w=.ok (some (25,a,386)) w:=by kernel_rfl
theorem Yz(a:Addr)(w:World):(ReflectliteValue.parts (.agg #[.pointer (some ⟨13,25,none⟩),.pointer (some a),.int .u64 130])).run prog w=.ok (some (25,a,130)) w:=by kernel_rfl
theorem Wj(w:World):(Rtype.directlyAssignable 25 25).run prog w=.ok true w:=by kernel_rfl
theorem ZJ(ta b:Addr)(n:Int)(old:Value)(W:World)(hb:W.cell? b=some (.int .i64 n))(ht:W.cell? ta=some old)(hf:W.frozen? ta=false):
  (ReflectliteValue.set #[.agg #[.pointer (some ⟨13,25,none⟩),.pointer (some ta),.int .u64 386],.agg #[.pointer (some ⟨13,25,none⟩),.pointer (some b),.int .u64 130]]).run prog W
   = .ok (.tuple #[]) (W.setCell ta (.int .i64 n)):=by
 obtain⟨u1,u2,g,e⟩:=rls (.agg #[.pointer (some ⟨13,25,none⟩),.pointer (some ta),.int .u64 386]) (.agg #[.pointer (some ⟨13,25,none⟩),.pointer (some b),.int .u64 130])
 rw[e]
 simp only[Sem.run_bind,Xn,Yz,Result.andThen]
 simp[ReflectliteValue.flagAddr,loadVar,isAgg,underlying,underlying25,hb,Result.andThen,Wj,storeVar,Value.cells,storeCells,Addr.add]
 rw[run_store prog W ta _ _ (by rfl)]
 simp[ht,hf]
def uX(w:World):Prop:=w.cell? ⟨2,0,none⟩=some (.iface 256 (.agg #[.pointer (some ⟨13,39,none⟩)]))
theorem uX.lt{w:World}(h:uX w):2<w.heap.size:=Ws w _ h
theorem uX.below{w w':World}{B:Nat}(h:uX w)(hb:Below B w w')(hB:2<B):uX w':=(hb.cell (p:=⟨2,0,none⟩) hB).trans h
theorem YK(n:Int)(t:Addr)(old:Value)(w:World)(hg0:uX w)(ht0:w.cell? t=some old)(hf0:w.frozen? t=false):
  Calls prog 123 #[.iface 25 (.int .i64 n),.iface 168 (.pointer (some t))] w fun ev w'=>ev=.returned (.bool true)/\w'=((((w.alloc (.cells #[.pointer (some t)] 168)).alloc (.cells #[.pointer (some ⟨13,168,none⟩),.pointer (some ⟨w.heap.size,0,none⟩),.int .u64 150] 217)).alloc (.cells #[.pointer (some ⟨13,168,none⟩),.pointer (some ⟨w.heap.size,0,none⟩),.int .u64 150] 217)).alloc (.cells #[.int .i64 n] 25)).setCell t (.int .i64 n):=by
 have hg:w.cell? ⟨2,0,none⟩=some (.iface 256 (.agg #[.pointer (some ⟨13,39,none⟩)])):=hg0
 have hlt:=hg0.lt
 have h6:=@run_callFunc_extern prog 188 _ (fun args=>ReflectliteValue.unpack (args.getD 0 (.tuple #[]))) func188 (by kernel_rfl) (by kernel_rfl) (by kernel_rfl) (by kernel_rfl)
 have h7 := @run_callFunc_extern prog 189 _ (ReflectliteValue.methodAny (ReflectliteValue.valueError "reflectlite.Value.Type" 0) (fun t _ _ _ => ReflectliteType.toType t)) func189 (by kernel_rfl) (by kernel_rfl) (by kernel_rfl) (by kernel_rfl)
 have h8 := @run_callFunc_extern prog 190 _ (ReflectliteValue.method (ReflectliteValue.valueError "reflectlite.Value.IsNil" 0) ReflectliteValue.isNil) func190 (by kernel_rfl) (by kernel_rfl) (by kernel_rfl) (by kernel_rfl)
 have h27:=@run_callFunc_extern prog 293 _ (ReflectliteType.abiMethod fun t=>do pure (.int .u8 (<-Rtype.kind t))) func293 (by kernel_rfl) (by kernel_rfl) (by kernel_rfl) (by kernel_rfl)
 have h37:=@run_callFunc_extern prog 309 _ (ReflectliteType.method ReflectliteType.elem) func309 (by kernel_rfl) (by kernel_rfl) (by kernel_rfl) (by kernel_rfl)
 have h38 := @run_callFunc_extern prog 310 _ (ReflectliteType.relation "Implements" ReflectliteType.implements_) func310 (by kernel_rfl) (by kernel_rfl) (by kernel_rfl) (by kernel_rfl)
 have h10:=@run_callFunc_extern prog 234 _ ReflectliteType.typeOf func234 (by kernel_rfl) (by kernel_rfl) (by kernel_rfl) (by kernel_rfl)
 have h35 := @run_callFunc_extern prog 307 _ (ReflectliteType.relation "AssignableTo" ReflectliteType.assignableTo) func307 (by kernel_rfl) (by kernel_rfl) (by kernel_rfl) (by kernel_rfl)
 have h11 := @run_callFunc_extern prog 235 _ (ReflectliteValue.method (ReflectliteValue.valueError "reflectlite.Value.Elem" 0) ReflectliteValue.elem) func235 (by kernel_rfl) (by kernel_rfl) (by kernel_rfl) (by kernel_rfl)
 have h12:=@run_callFunc_extern prog 236 _ ReflectliteValue.set func236 (by kernel_rfl) (by kernel_rfl) (by kernel_rfl) (by kernel_rfl)
 have tO:=OX
 have mA:=mY
 have a25:=zy
 have v25:=II
 have f6:=JC
 have f7:=Ye
 have mK:=Cm
 have mE:=Cc
 have mI:=pX
 have k27:=X8
 have k25:=X5
 have e27:=XN
 have i25:=Ab
 have n8:=VC ⟨w.heap.size,0,none⟩ t ((w.alloc (.cells #[.pointer (some t)] 168)).alloc (.cells #[.pointer (some ⟨13,168,none⟩),.pointer (some ⟨w.heap.size,0,none⟩),.int .u64 150] 217)) (by simp)
 have hg2:((w.alloc (.cells #[.pointer (some t)] 168)).alloc (.cells #[.pointer (some ⟨13,168,none⟩),.pointer (some ⟨w.heap.size,0,none⟩),.int .u64 150] 217)).cell? ⟨2,0,none⟩=some (.iface 256 (.agg #[.pointer (some ⟨13,39,none⟩)])):=by
  rw[GL _ _ ⟨2,0,none⟩ (by first|(simp;done)|(simp;omega)),GL _ _ ⟨2,0,none⟩ hlt];exact hg
 have htl:t.block<w.heap.size:=Ws w _ ht0
 have el:=TF ⟨w.heap.size,0,none⟩ t (((w.alloc (.cells #[.pointer (some t)] 168)).alloc (.cells #[.pointer (some ⟨13,168,none⟩),.pointer (some ⟨w.heap.size,0,none⟩),.int .u64 150] 217)).alloc (.cells #[.pointer (some ⟨13,168,none⟩),.pointer (some ⟨w.heap.size,0,none⟩),.int .u64 150] 217)) (by rw[GL _ _ ⟨w.heap.size,0,none⟩ (by simp;omega)];simp)
 have st:=ZJ t ⟨w.heap.size+1+1+1,0,none⟩ n old ((((w.alloc (.cells #[.pointer (some t)] 168)).alloc (.cells #[.pointer (some ⟨13,168,none⟩),.pointer (some ⟨w.heap.size,0,none⟩),.int .u64 150] 217)).alloc (.cells #[.pointer (some ⟨13,168,none⟩),.pointer (some ⟨w.heap.size,0,none⟩),.int .u64 150] 217)).alloc (.cells #[.int .i64 n] 25))
  (by rw[Xu _ _ _ _ (by simp)];rfl)
  (by rw[GL _ _ t (by simp;omega),GL _ _ t (by simp;omega),GL _ _ t (by simp;omega),GL _ _ t htl];exact ht0)
  (by rw[VQ _ _ t (by simp;omega),VQ _ _ t (by simp;omega),VQ _ _ t (by simp;omega),VQ _ _ t (Nat.ne_of_lt htl)];exact hf0)
 clear hg0
 go_enter func123,ntmps123
 go_wp2
 refine wp_loop_rounds 1 ?_
 rw[rounds_succ]
 go_wp2
 go_ret
 exact⟨rfl,rfl⟩
theorem LM(n:Int)(w:World)(hg:uX w):Calls prog 69 #[.iface 25 (.int .i64 n)] w fun e w'=>e=.returned (.int .i64 n)/\Below w.heap.size w w':=by
 have hgA:uX (w.alloc (.cells #[.int .i64 0] 25)):=hg.below ((Below.refl w.heap.size w).alloc af _) hg.lt
 have htA:(w.alloc (.cells #[.int .i64 0] 25)).cell? ⟨w.heap.size,0,none⟩=some (.int .i64 0):=by simp
 have hfA:(w.alloc (.cells #[.int .i64 0] 25)).frozen? ⟨w.heap.size,0,none⟩=false:=by simp
 go_enter func69,ntmps69
 go_wp2_with (go_at_call 123;refine(YK n _ (.int .i64 0) _ hgA htA hfA).mono ?_;rintro e w' ⟨rfl,rfl⟩)
 go_ret
 refine⟨rfl,?_⟩
 exact((((ag.alloc af _).alloc (by simp) _).alloc (by simp;omega) _).alloc (by simp;omega) _).alloc (by simp;omega) _
theorem WG(v:Value)(w:World):(ReflectliteType.typeOf #[.iface 130 v]).run prog w=.ok (.iface 256 (.agg #[.pointer (some ⟨13,130,none⟩)])) w:=by kernel_rfl
theorem IK (w : World) : (ReflectliteType.relation "AssignableTo" ReflectliteType.assignableTo #[.agg #[.pointer (some ⟨13, 130, none⟩)], .iface 256 (.agg #[.pointer (some ⟨13, 25, none⟩)])]).run prog w = .ok (.bool false) w := by kernel_rfl
theorem ZU(v:Value)(xT:TypeId)(w:World):(Instr.typeAssert (.iface 130 v) xT 261 true).run prog w=.ok (.tuple #[.nilIface,.bool false]) w:=
 run_typeAssert_lacksB underlying261 (by kernel_rfl) (by kernel_rfl) v xT w
theorem Rs(v:Value)(xT:TypeId)(w:World):(Instr.typeAssert (.iface 130 v) xT 264 true).run prog w=.ok (.tuple #[.iface 130 v,.bool true]) w:=by kernel_rfl
theorem Gj (h : Value) (w : World) : (Go.method 429 130 h "Unwrap").run prog w = .ok (299, h) w := by kernel_rfl
theorem Zl(n:Int)(b:Nat)(t:Addr)(old:Value)(w:World)(hb0:w.cell? ⟨b,0,none⟩=some (.int .i64 n))(hg0:uX w)(ht0:w.cell? t=some old)(hf0:w.frozen? t=false):
  Calls prog 123 #[.iface 130 (.pointer (some ⟨b,0,none⟩)),.iface 168 (.pointer (some t))] w fun ev w'=>ev=.returned (.bool true)/\w'=((((w.alloc (.cells #[.pointer (some t)] 168)).alloc (.cells #[.pointer (some ⟨13,168,none⟩),.pointer (some ⟨w.heap.size,0,none⟩),.int .u64 150] 217)).alloc (.cells #[.pointer (some ⟨13,168,none⟩),.pointer (some ⟨w.heap.size,0,none⟩),.int .u64 150] 217)).alloc (.cells #[.int .i64 n] 25)).setCell t (.int .i64 n):=by
 have hg:w.cell? ⟨2,0,none⟩=some (.iface 256 (.agg #[.pointer (some ⟨13,39,none⟩)])):=hg0
 have hlt:=hg0.lt
 have h6:=@run_callFunc_extern prog 188 _ (fun args=>ReflectliteValue.unpack (args.getD 0 (.tuple #[]))) func188 (by kernel_rfl) (by kernel_rfl) (by kernel_rfl) (by kernel_rfl)
 have h7 := @run_callFunc_extern prog 189 _ (ReflectliteValue.methodAny (ReflectliteValue.valueError "reflectlite.Value.Type" 0) (fun t _ _ _ => ReflectliteType.toType t)) func189 (by kernel_rfl) (by kernel_rfl) (by kernel_rfl) (by kernel_rfl)
 have h8 := @run_callFunc_extern prog 190 _ (ReflectliteValue.method (ReflectliteValue.valueError "reflectlite.Value.IsNil" 0) ReflectliteValue.isNil) func190 (by kernel_rfl) (by kernel_rfl) (by kernel_rfl) (by kernel_rfl)
 have h27:=@run_callFunc_extern prog 293 _ (ReflectliteType.abiMethod fun t=>do pure (.int .u8 (<-Rtype.kind t))) func293 (by kernel_rfl) (by kernel_rfl) (by kernel_rfl) (by kernel_rfl)
 have h37:=@run_callFunc_extern prog 309 _ (ReflectliteType.method ReflectliteType.elem) func309 (by kernel_rfl) (by kernel_rfl) (by kernel_rfl) (by kernel_rfl)
 have h38 := @run_callFunc_extern prog 310 _ (ReflectliteType.relation "Implements" ReflectliteType.implements_) func310 (by kernel_rfl) (by kernel_rfl) (by kernel_rfl) (by kernel_rfl)
 have h10:=@run_callFunc_extern prog 234 _ ReflectliteType.typeOf func234 (by kernel_rfl) (by kernel_rfl) (by kernel_rfl) (by kernel_rfl)
 have h35 := @run_callFunc_extern prog 307 _ (ReflectliteType.relation "AssignableTo" ReflectliteType.assignableTo) func307 (by kernel_rfl) (by kernel_rfl) (by kernel_rfl) (by kernel_rfl)
 have h11 := @run_callFunc_extern prog 235 _ (ReflectliteValue.method (ReflectliteValue.valueError "reflectlite.Value.Elem" 0) ReflectliteValue.elem) func235 (by kernel_rfl) (by kernel_rfl) (by kernel_rfl) (by kernel_rfl)
 have h12:=@run_callFunc_extern prog 236 _ ReflectliteValue.set func236 (by kernel_rfl) (by kernel_rfl) (by kernel_rfl) (by kernel_rfl)
 have tO:=OX
 have mA:=mY
 have a25:=zy
 have v25:=II
 have f6:=JC
 have f7:=Ye
 have mK:=Cm
 have mE:=Cc
 have mI:=pX
 have k27:=X8
 have k25:=X5
 have e27:=XN
 have i25:=Ab
 have n8:=VC ⟨w.heap.size,0,none⟩ t ((w.alloc (.cells #[.pointer (some t)] 168)).alloc (.cells #[.pointer (some ⟨13,168,none⟩),.pointer (some ⟨w.heap.size,0,none⟩),.int .u64 150] 217)) (by simp)
 have hg2:((w.alloc (.cells #[.pointer (some t)] 168)).alloc (.cells #[.pointer (some ⟨13,168,none⟩),.pointer (some ⟨w.heap.size,0,none⟩),.int .u64 150] 217)).cell? ⟨2,0,none⟩=some (.iface 256 (.agg #[.pointer (some ⟨13,39,none⟩)])):=by
  rw[GL _ _ ⟨2,0,none⟩ (by first|(simp;done)|(simp;omega)),GL _ _ ⟨2,0,none⟩ hlt];exact hg
 have htl:t.block<w.heap.size:=Ws w _ ht0
 have el:=TF ⟨w.heap.size,0,none⟩ t (((w.alloc (.cells #[.pointer (some t)] 168)).alloc (.cells #[.pointer (some ⟨13,168,none⟩),.pointer (some ⟨w.heap.size,0,none⟩),.int .u64 150] 217)).alloc (.cells #[.pointer (some ⟨13,168,none⟩),.pointer (some ⟨w.heap.size,0,none⟩),.int .u64 150] 217)) (by rw[GL _ _ ⟨w.heap.size,0,none⟩ (by simp;omega)];simp)
 have st:=ZJ t ⟨w.heap.size+1+1+1,0,none⟩ n old ((((w.alloc (.cells #[.pointer (some t)] 168)).alloc (.cells #[.pointer (some ⟨13,168,none⟩),.pointer (some ⟨w.heap.size,0,none⟩),.int .u64 150] 217)).alloc (.cells #[.pointer (some ⟨13,168,none⟩),.pointer (some ⟨w.heap.size,0,none⟩),.int .u64 150] 217)).alloc (.cells #[.int .i64 n] 25))
  (by rw[Xu _ _ _ _ (by simp)];rfl)
  (by rw[GL _ _ t (by simp;omega),GL _ _ t (by simp;omega),GL _ _ t (by simp;omega),GL _ _ t htl];exact ht0)
  (by rw[VQ _ _ t (by simp;omega),VQ _ _ t (by simp;omega),VQ _ _ t (by simp;omega),VQ _ _ t (Nat.ne_of_lt htl)];exact hf0)
 have hbl:b<w.heap.size:=Ws w _ hb0
 have hb3:(((w.alloc (.cells #[.pointer (some t)] 168)).alloc (.cells #[.pointer (some ⟨13,168,none⟩),.pointer (some ⟨w.heap.size,0,none⟩),.int .u64 150] 217)).alloc (.cells #[.pointer (some ⟨13,168,none⟩),.pointer (some ⟨w.heap.size,0,none⟩),.int .u64 150] 217)).cell? ⟨b,0,none⟩=some (.int .i64 n):=by
  rw[GL _ _ ⟨b,0,none⟩ (by first|(simp;done)|(simp;omega)),GL _ _ ⟨b,0,none⟩ (by first|(simp;done)|(simp;omega)),GL _ _ ⟨b,0,none⟩ hbl];exact hb0
 have tA:=WG
 have aA:=IK
 have nA:=ZU
 have hU:=Rs
 have mU:=Gj
 clear hg0
 go_enter func123,ntmps123
 go_wp2
 refine wp_loop_rounds 2 ?_
 rw[rounds_succ]
 go_wp2
 rw[rounds_succ]
 go_wp2
 go_ret
 exact⟨rfl,rfl⟩
theorem Ow(n:Int)(b:Nat)(w:World)(hb0:w.cell? ⟨b,0,none⟩=some (.int .i64 n))(hg:uX w):Calls prog 69 #[.iface 130 (.pointer (some ⟨b,0,none⟩))] w fun e w'=>e=.returned (.int .i64 n)/\Below w.heap.size w w':=by
 have hgA:uX (w.alloc (.cells #[.int .i64 0] 25)):=hg.below ((Below.refl w.heap.size w).alloc af _) hg.lt
 have htA:(w.alloc (.cells #[.int .i64 0] 25)).cell? ⟨w.heap.size,0,none⟩=some (.int .i64 0):=by simp
 have hfA:(w.alloc (.cells #[.int .i64 0] 25)).frozen? ⟨w.heap.size,0,none⟩=false:=by simp
 have hbA:(w.alloc (.cells #[.int .i64 0] 25)).cell? ⟨b,0,none⟩=some (.int .i64 n):=(GL _ _ ⟨b,0,none⟩ (Ws w _ hb0)).trans hb0
 go_enter func69,ntmps69
 go_wp2_with (go_at_call 123;refine(Zl n b _ (.int .i64 0) _ hbA hgA htA hfA).mono ?_;rintro e w' ⟨rfl,rfl⟩)
 go_ret
 refine⟨rfl,?_⟩
 exact((((ag.alloc af _).alloc (by simp) _).alloc (by simp;omega) _).alloc (by simp;omega) _).alloc (by simp;omega) _
end Go.Proofs.YtkldkhdigkpniaaGreatDoor
