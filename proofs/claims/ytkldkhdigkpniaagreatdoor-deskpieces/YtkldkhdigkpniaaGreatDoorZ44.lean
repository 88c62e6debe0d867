import Derived.Shelf.Strings.FieldsFuncGrows
import Derived.Shelf.Strings.Prefix
import Derived.Shelf.Strconv.ParseIntPublic10
import Derived.Shelf.Strconv.Itoa4
import Derived.Test.YtkldkhdigkpniaaGreatDoorZ43
set_option maxHeartbeats 4000000
set_option maxRecDepth 100000
open Go.World renaming block_lt_of_cell? → GL
open List renaming length_append → VQ, length_cons → Ws, length_map → Xu, length_nil → ZV, getElem_mem → ZW, map_append → ZX, mem_cons → ZY, take_add_one → ZZ, getElem?_eq_getElem → Z0, take_of_length_le → Z4, mem_map_of_mem → Z5, map_map → Z6, mem_map → Z7, getElem_map → Z8
open Nat renaming le_trans → Z9, zero_le → aaa, le_refl → aab, le_of_lt → aac
namespace Go.Proofs
open Go.Shelf Go.Proofs.Tryz
def Tryz.lays102_ren:Go.Shelf.Ren:=⟨fun|102=>29|209=>61|207=>114|n=>n,fun|9=>9|4=>4|3=>3|n=>n,fun|n=>n⟩
theorem Tryz.lays102:Go.Proofs.Lays.n102 prog Tryz.lays102_ren:={
 mixed:=by kernel_rfl
 f102:=Tryz.func29.trans (congrArg some (by kernel_rfl))
 f207:=Tryz.func114.trans (congrArg some (by kernel_rfl))
 f209:=Tryz.func61.trans (congrArg some (by kernel_rfl))
 t3:=underlying3
 a3:=isAgg3
 z3:=sizeOf3
 v3:=zeroValue3
 t4:=underlying4
 a4:=isAgg4
 z4:=sizeOf4
 v4:=zeroValue4
 t9:=underlying9
 a9:=isAgg9
 z9:=sizeOf9
 v9:=zeroValue9 }
open Go.RowKit Go.Lib in
theorem Tryz.strings_TrimSuffix(s p:ByteArray)(w:World)(hs:s.size<=9223372036854775807):
  Calls prog 29 #[.string s,.string p] w fun e w'=>e=.returned (.string ⟨(Lib.trimSuffix s.data.toList p.data.toList).toArray⟩)/\w'=w:=Any.strings_TrimSuffix Tryz.lays102 s p w hs
def Tryz.lays229_ren:Go.Shelf.Ren:=⟨fun|229=>33|n=>n,fun|9=>9|40=>54|31=>52|152=>97|3=>3|0=>0|4=>4|21=>21|154=>99|n=>n,fun|n=>n⟩
theorem Tryz.lays229:Go.Proofs.Lays.n229 prog Tryz.lays229_ren:={
 mixed:=by kernel_rfl
 f229:=Tryz.func33.trans (congrArg some (by kernel_rfl))
 t0:=underlying0
 a0:=isAgg0
 z0:=sizeOf0
 v0:=zeroValue0
 t3:=underlying3
 a3:=isAgg3
 z3:=sizeOf3
 v3:=zeroValue3
 t4:=underlying4
 a4:=isAgg4
 z4:=sizeOf4
 v4:=zeroValue4
 t9:=underlying9
 a9:=isAgg9
 z9:=sizeOf9
 v9:=zeroValue9
 t21:=underlying21
 a21:=isAgg21
 z21:=sizeOf21
 v21:=zeroValue21
 t31:=underlying52
 a31:=isAgg52
 z31:=sizeOf52
 v31:=zeroValue52
 t40:=underlying54
 a40:=isAgg54
 z40:=sizeOf54
 v40:=zeroValue54
 t152:=underlying97
 a152:=isAgg97
 z152:=sizeOf97
 v152:=zeroValue97
 t154:=underlying99
 a154:=isAgg99
 z154:=sizeOf99
 v154:=zeroValue99 }
open Go.RowKit Go.Lib in
theorem Tryz.strings_FieldsFunc(g:Nat)(lb:Array Value)(eg:∀args w,(callFunc g args).run prog w=.ok (.enter g args) w)(p:Nat->Bool)(s:ByteArray)(w:World)(hs:s.size<=4294967296)(hp:PredGrows prog g lb p w):
  Calls prog 33 #[.string s,.func (.func g) #[] lb] w fun e w'=>∃A,e=.returned (.slice (some ⟨A,0,none⟩) (Lib.goFieldsP p s).length (Lib.goFieldsP p s).length)/\w.heap.size<=A/\w'.ownsRow w.heap.size 9 1 (.slice (some ⟨A,0,none⟩) (Lib.goFieldsP p s).length (Lib.goFieldsP p s).length) (Lib.goFieldsP p s).length ((Lib.goFieldsP p s).map Value.string)/\Below w.heap.size w w':=Any.strings_FieldsFunc_grows Tryz.lays229 g lb eg p s w hs hp (by kernel_rfl) (by kernel_rfl)
def Tryz.lays173_ren:Go.Shelf.Ren:=⟨fun|173=>68|246=>64|283=>116|284=>117|285=>118|286=>119|129=>178|317=>177|318=>179|319=>180|320=>181|337=>227|338=>228|n=>n,fun|2=>2|3=>3|9=>9|4=>4|171=>159|0=>0|53=>160|37=>32|5=>5|173=>163|212=>205|51=>206|20=>20|213=>207|46=>117|232=>278|233=>279|n=>n,fun|17=>1|18=>7|19=>8|n=>n⟩
theorem Tryz.lays173:Go.Proofs.LaysM.n173 prog Tryz.lays173_ren:={
 mixed:=by kernel_rfl
 f129:=Tryz.func178.trans (congrArg some (by kernel_rfl))
 f173:=Tryz.func68.trans (congrArg some (by kernel_rfl))
 f246:=Tryz.func64.trans (congrArg some (by kernel_rfl))
 f283:=Tryz.func116.trans (congrArg some (by kernel_rfl))
 f284:=Tryz.func117.trans (congrArg some (by kernel_rfl))
 f285:=Tryz.func118.trans (congrArg some (by kernel_rfl))
 f286:=Tryz.func119.trans (congrArg some (by kernel_rfl))
 f317:=Tryz.func177.trans (congrArg some (by kernel_rfl))
 f318:=Tryz.func179.trans (congrArg some (by kernel_rfl))
 f319:=Tryz.func180.trans (congrArg some (by kernel_rfl))
 f320:=Tryz.func181.trans (congrArg some (by kernel_rfl))
 f337:=Tryz.func227.trans (congrArg some (by kernel_rfl))
 f338:=Tryz.func228.trans (congrArg some (by kernel_rfl))
 t0:=underlying0
 a0:=isAgg0
 z0:=sizeOf0
 v0:=zeroValue0
 t2:=underlying2
 a2:=isAgg2
 z2:=sizeOf2
 v2:=zeroValue2
 t3:=underlying3
 a3:=isAgg3
 z3:=sizeOf3
 v3:=zeroValue3
 t4:=underlying4
 a4:=isAgg4
 z4:=sizeOf4
 v4:=zeroValue4
 t5:=underlying5
 a5:=isAgg5
 z5:=sizeOf5
 v5:=zeroValue5
 t9:=underlying9
 a9:=isAgg9
 z9:=sizeOf9
 v9:=zeroValue9
 t20:=underlying20
 a20:=isAgg20
 z20:=sizeOf20
 v20:=zeroValue20
 t37:=underlying32
 a37:=isAgg32
 z37:=sizeOf32
 v37:=zeroValue32
 t46:=underlying117
 a46:=isAgg117
 z46:=sizeOf117
 v46:=zeroValue117
 t51:=underlying206
 a51:=isAgg206
 z51:=sizeOf206
 v51:=zeroValue206
 t53:=underlying160
 a53:=isAgg160
 z53:=sizeOf160
 v53:=zeroValue160
 t171:=underlying159
 a171:=isAgg159
 z171:=sizeOf159
 v171:=zeroValue159
 t173:=underlying163
 a173:=isAgg163
 z173:=sizeOf163
 v173:=zeroValue163
 t212:=underlying205
 a212:=isAgg205
 z212:=sizeOf205
 v212:=zeroValue205
 t213:=underlying207
 a213:=isAgg207
 z213:=sizeOf207
 t232:=underlying278
 a232:=isAgg278
 z232:=sizeOf278
 v232:=zeroValue278
 t233:=underlying279
 a233:=isAgg279
 z233:=sizeOf279
 v233:=zeroValue279
 g17:=by kernel_rfl
 g18:=by kernel_rfl
 g19:=by kernel_rfl
 i0:=by kernel_rfl
 i2:=by kernel_rfl
 i3:=by kernel_rfl
 i4:=by kernel_rfl
 i5:=by kernel_rfl
 i9:=by kernel_rfl
 i20:=by kernel_rfl
 i37:=by kernel_rfl
 i46:=by kernel_rfl
 i51:=by kernel_rfl
 i53:=by kernel_rfl
 i171:=by kernel_rfl
 i173:=by kernel_rfl
 i212:=by kernel_rfl
 i232:=by kernel_rfl
 i233:=by kernel_rfl
 m17:=by kernel_rfl
 m18:=by kernel_rfl
 m19:=by kernel_rfl }
open Go.RowKit Go.Lib in
theorem Tryz.strconv_FormatInt_10 (n : Int) (h0 : -9223372036854775808 ≤ n) (h1 : n ≤ 9223372036854775807) (w : World) (htab : Lib.TabIs prog w "internal/strconv.uint64pow10" .u64 Lib.pow10Tab) :
  Calls prog 68 #[.int .i64 n,.int .i64 10] w fun e w'=>e=.returned (.string ⟨(Lib.itoa n).toArray⟩)/\∃k os,w'=Go.Sort.grow (w.drewN k) os:=Any.strconv_FormatInt_10 Tryz.lays173 n h0 h1 w htab
def Tryz.lays174_ren:Go.Shelf.Ren:=⟨fun|174=>67|247=>121|245=>122|287=>183|279=>184|280=>185|281=>186|282=>187|321=>230|322=>231|316=>232|171=>11|205=>233|243=>35|246=>64|283=>116|284=>117|285=>118|286=>119|129=>178|317=>177|318=>179|319=>180|320=>181|337=>227|338=>228|n=>n,fun|9=>9|3=>3|2=>2|75=>39|85=>108|4=>4|167=>209|5=>5|53=>160|175=>210|46=>117|168=>212|37=>32|0=>0|210=>253|21=>21|127=>57|145=>282|143=>280|171=>159|173=>163|212=>205|51=>206|20=>20|213=>207|232=>278|233=>279|80=>43|n=>n,fun|15=>4|16=>5|17=>1|18=>7|19=>8|n=>n⟩
theorem Tryz.lays174:Go.Proofs.LaysC.n174 prog Tryz.lays174_ren:={
 mixed:=by kernel_rfl
 f129:=Tryz.func178.trans (congrArg some (by kernel_rfl))
 f171:=Tryz.func11.trans (congrArg some (by kernel_rfl))
 f174:=Tryz.func67.trans (congrArg some (by kernel_rfl))
 f205:=Tryz.func233.trans (congrArg some (by kernel_rfl))
 f243:=Tryz.func35.trans (congrArg some (by kernel_rfl))
 f245:=Tryz.func122.trans (congrArg some (by kernel_rfl))
 f246:=Tryz.func64.trans (congrArg some (by kernel_rfl))
 f247:=Tryz.func121.trans (congrArg some (by kernel_rfl))
 f279:=Tryz.func184.trans (congrArg some (by kernel_rfl))
 f280:=Tryz.func185.trans (congrArg some (by kernel_rfl))
 f281:=Tryz.func186.trans (congrArg some (by kernel_rfl))
 f282:=Tryz.func187.trans (congrArg some (by kernel_rfl))
 f283:=Tryz.func116.trans (congrArg some (by kernel_rfl))
 f284:=Tryz.func117.trans (congrArg some (by kernel_rfl))
 f285:=Tryz.func118.trans (congrArg some (by kernel_rfl))
 f286:=Tryz.func119.trans (congrArg some (by kernel_rfl))
 f287:=Tryz.func183.trans (congrArg some (by kernel_rfl))
 f316:=Tryz.func232.trans (congrArg some (by kernel_rfl))
 f317:=Tryz.func177.trans (congrArg some (by kernel_rfl))
 f318:=Tryz.func179.trans (congrArg some (by kernel_rfl))
 f319:=Tryz.func180.trans (congrArg some (by kernel_rfl))
 f320:=Tryz.func181.trans (congrArg some (by kernel_rfl))
 f321:=Tryz.func230.trans (congrArg some (by kernel_rfl))
 f322:=Tryz.func231.trans (congrArg some (by kernel_rfl))
 f337:=Tryz.func227.trans (congrArg some (by kernel_rfl))
 f338:=Tryz.func228.trans (congrArg some (by kernel_rfl))
 t0:=underlying0
 a0:=isAgg0
 z0:=sizeOf0
 v0:=zeroValue0
 t2:=underlying2
 a2:=isAgg2
 z2:=sizeOf2
 v2:=zeroValue2
 t3:=underlying3
 a3:=isAgg3
 z3:=sizeOf3
 v3:=zeroValue3
 t4:=underlying4
 a4:=isAgg4
 z4:=sizeOf4
 v4:=zeroValue4
 t5:=underlying5
 a5:=isAgg5
 z5:=sizeOf5
 v5:=zeroValue5
 t9:=underlying9
 a9:=isAgg9
 z9:=sizeOf9
 v9:=zeroValue9
 t20:=underlying20
 a20:=isAgg20
 z20:=sizeOf20
 v20:=zeroValue20
 t21:=underlying21
 a21:=isAgg21
 z21:=sizeOf21
 v21:=zeroValue21
 t37:=underlying32
 a37:=isAgg32
 z37:=sizeOf32
 v37:=zeroValue32
 t46:=underlying117
 a46:=isAgg117
 z46:=sizeOf117
 v46:=zeroValue117
 t51:=underlying206
 a51:=isAgg206
 z51:=sizeOf206
 v51:=zeroValue206
 t53:=underlying160
 a53:=isAgg160
 z53:=sizeOf160
 v53:=zeroValue160
 t75:=underlying39
 a75:=isAgg39
 z75:=sizeOf39
 v75:=zeroValue39
 t85:=underlying108
 a85:=isAgg108
 z85:=sizeOf108
 v85:=zeroValue108
 t127:=underlying57
 a127:=isAgg57
 z127:=sizeOf57
 v127:=zeroValue57
 t143:=underlying280
 a143:=isAgg280
 z143:=sizeOf280
 v143:=zeroValue280
 t145:=underlying282
 a145:=isAgg282
 z145:=sizeOf282
 v145:=zeroValue282
 t167:=underlying209
 a167:=isAgg209
 z167:=sizeOf209
 v167:=zeroValue209
 t168:=underlying212
 a168:=isAgg212
 z168:=sizeOf212
 v168:=zeroValue212
 t171:=underlying159
 a171:=isAgg159
 z171:=sizeOf159
 v171:=zeroValue159
 t173:=underlying163
 a173:=isAgg163
 z173:=sizeOf163
 v173:=zeroValue163
 t175:=underlying210
 a175:=isAgg210
 z175:=sizeOf210
 v175:=zeroValue210
 t210:=underlying253
 a210:=isAgg253
 z210:=sizeOf253
 v210:=zeroValue253
 t212:=underlying205
 a212:=isAgg205
 z212:=sizeOf205
 v212:=zeroValue205
 t213:=underlying207
 a213:=isAgg207
 z213:=sizeOf207
 t232:=underlying278
 a232:=isAgg278
 z232:=sizeOf278
 v232:=zeroValue278
 t233:=underlying279
 a233:=isAgg279
 z233:=sizeOf279
 v233:=zeroValue279
 g15:=by kernel_rfl
 g16:=by kernel_rfl
 g17:=by kernel_rfl
 g18:=by kernel_rfl
 g19:=by kernel_rfl
 t80:=underlying43
 a80:=isAgg43
 z80:=sizeOf43
 v80:=zeroValue43
 i0:=by kernel_rfl
 i2:=by kernel_rfl
 i3:=by kernel_rfl
 i4:=by kernel_rfl
 i5:=by kernel_rfl
 i9:=by kernel_rfl
 i20:=by kernel_rfl
 i21:=by kernel_rfl
 i37:=by kernel_rfl
 i46:=by kernel_rfl
 i51:=by kernel_rfl
 i53:=by kernel_rfl
 i75:=by kernel_rfl
 i80:=by kernel_rfl
 i85:=by kernel_rfl
 i127:=by kernel_rfl
 i143:=by kernel_rfl
 i145:=by kernel_rfl
 i167:=by kernel_rfl
 i168:=by kernel_rfl
 i171:=by kernel_rfl
 i173:=by kernel_rfl
 i175:=by kernel_rfl
 i210:=by kernel_rfl
 i212:=by kernel_rfl
 i232:=by kernel_rfl
 i233:=by kernel_rfl
 m15:=by kernel_rfl
 m16:=by kernel_rfl
 m17:=by kernel_rfl
 m18:=by kernel_rfl
 m19:=by kernel_rfl
 c0:=by kernel_rfl
 c2:=by kernel_rfl
 c3:=by kernel_rfl
 c4:=by kernel_rfl
 c5:=by kernel_rfl
 c9:=by kernel_rfl
 c20:=by kernel_rfl
 c21:=by kernel_rfl
 c37:=by kernel_rfl
 c46:=by kernel_rfl
 c51:=by kernel_rfl
 c53:=by kernel_rfl
 c75:=by kernel_rfl
 c80:=by kernel_rfl
 c85:=by kernel_rfl
 c127:=by kernel_rfl
 c143:=by kernel_rfl
 c145:=by kernel_rfl
 c167:=by kernel_rfl
 c168:=by kernel_rfl
 c171:=by kernel_rfl
 c173:=by kernel_rfl
 c175:=by kernel_rfl
 c210:=by kernel_rfl
 c212:=by kernel_rfl
 c213:=by kernel_rfl
 c232:=by kernel_rfl
 c233:=by kernel_rfl }
open Go.RowKit Go.Lib in
theorem Tryz.strconv_ParseInt_ok(s:ByteArray)(hmax:s.size<=9223372036854775806)(v:Int)(h:Lib.parseIntB 64 s.data.toList=.ok v)(w:World):
  Calls prog 67 #[.string s,.int .i64 10,.int .i64 64] w fun e w'=>e=.returned (.tuple #[.int .i64 v,.nilIface])/\(w'=w\/∃t,w'=Lib.bytesWorld w 5 t):=Any.strconv_ParseInt_10_at64_ok Tryz.lays174 s hmax v h w
open Go.RowKit Go.Lib in
theorem Tryz.strconv_ParseInt_syntax(s:ByteArray)(hlim:s.size<=281474976710656)(h:Lib.parseIntB 64 s.data.toList=.«syntax»)(ev:Value)(w:World)(hv:w.cell? ⟨4,0,none⟩=some ev)(hev:ev=.nilIface\/∃te pe,ev=.iface te pe):
  Calls prog 67 #[.string s,.int .i64 10,.int .i64 64] w fun e w'=>∃(N:Nat) (z:Int),e=.returned (.tuple #[.int .i64 z,.iface 212 (.pointer (some ⟨N,0,none⟩))])/\Below w.heap.size w w':=(Any.strconv_ParseInt_10_at64_syntax Tryz.lays174 s hlim h ev w hv hev).mono (fun _ _ hh=>hh.elim fun N hN=>⟨N,_,hN.1,hN.2.2.2⟩)
open Go.RowKit Go.Lib in
theorem Tryz.strconv_ParseInt_range(s:ByteArray)(hlim:s.size<=281474976710656)(h:Lib.parseIntB 64 s.data.toList=.range)(ev:Value)(w:World)(hv:w.cell? ⟨5,0,none⟩=some ev)(hev:ev=.nilIface\/∃te pe,ev=.iface te pe):
  Calls prog 67 #[.string s,.int .i64 10,.int .i64 64] w fun e w'=>∃(N:Nat) (z:Int),e=.returned (.tuple #[.int .i64 z,.iface 212 (.pointer (some ⟨N,0,none⟩))])/\Below w.heap.size w w':=(Any.strconv_ParseInt_10_at64_range Tryz.lays174 s hlim h ev w hv hev).mono (fun _ _ hh=>hh.elim fun N hN=>⟨N,_,hN.1,hN.2.2.2⟩)
end Go.Proofs
namespace Go.Proofs.YtkldkhdigkpniaaGreatDoor
open Go.RowKit Go.Proofs.Px Go.Proofs.Tryz
theorem Kg(w:World)(e:TypeId)(t:ByteArray):Below w.heap.size w (Lib.bytesWorld w e t):=⟨rfl,rfl,rfl,by rw[Lib.bytesWorld_size];omega,fun j hj=>Lib.bytesWorld_at_old w e t j hj⟩
theorem Ut(l:aa)(v:Int)(h:Lib.parseIntB 64 l=.ok v):-9223372036854775808<=v/\v<=9223372036854775807:=by
 unfold Lib.parseIntB at h
 cases l with
 | nil=>cases h
 | cons c r=>
  simp only at h
  split at h
  ·cases h
  ·cases h
  ·split at h
   ·cases h
   ·split at h
    ·cases h
    ·cases h
     split<;>omega
def VM(O:Option Int)(e:Ending):Prop:=match O with
 | none=>e=dP 3
 | some i=>e=.returned (.int .i64 i)
theorem zF(s:ByteArray)(w:World)(d:Nat)(hs:s.size<=3000)(hE:lg w d):
  Calls prog 40 #[.string s] w fun e w'=>VM (kC s.data.toList) e/\Below w.heap.size w w':=by
 obtain⟨R,HR⟩:∃R,Box (kC s.data.toList=R):=⟨_,⟨rfl⟩⟩
 rw[HR.o]
 have bad:(∀v,Lib.parseIntB 64 s.data.toList≠.ok v)->(Calls prog 67 #[.string s,.int .i64 10,.int .i64 64] w fun e w'=>∃(N:Nat) (z:Int),e=.returned (.tuple #[.int .i64 z,.iface 212 (.pointer (some ⟨N,0,none⟩))])/\Below w.heap.size w w')->Calls prog 40 #[.string s] w fun e w'=>VM R e/\Below w.heap.size w w':=by
  intro hn hc
  have HR2:Box (R=none):=⟨by
   rw[<-HR.o]
   unfold kC
   split
   ·rename_i v hv;exact absurd hv (hn v)
   ·rfl⟩
  have HC:=Box.m hc
  clear hn hc HR hE
  go_enter func40,ntmps40
  go_wp2_with fail
  refine HC.o.mono ?_
  rintro e w1 ⟨N,z,rfl,hb1⟩
  clear HC
  go_wp2
  exact⟨rfl,by rw[HR2.o];rfl,hb1⟩
 cases hp:Lib.parseIntB 64 s.data.toList with
 | «syntax»=>
  obtain⟨ev,h1,h2⟩:=hE.es.c
  exact bad (fun v hv=>by rw[hp]at hv;cases hv) (Tryz.strconv_ParseInt_syntax s (by omega) hp ev w h1 h2)
 | range=>
  obtain⟨ev,h1,h2⟩:=hE.er.c
  exact bad (fun v hv=>by rw[hp]at hv;cases hv) (Tryz.strconv_ParseInt_range s (by omega) hp ev w h1 h2)
 | ok v=>
  obtain⟨v0,v1⟩:=Ut _ v hp
  have HP:=Box.m (Tryz.strconv_ParseInt_ok s (by omega) v hp w)
  have HTb:=Box.m hE.tb
  have HR2:Box (R=if Lib.itoa v=s.data.toList then some v else none):=⟨by rw[<-HR.o];unfold kC;rw[hp]⟩
  clear bad HR hp hE
  go_enter func40,ntmps40
  go_wp2_with fail
  refine HP.o.mono ?_
  rintro e w1 ⟨rfl,hw1⟩
  have hb1:Below w.heap.size w w1:=by
   rcases hw1 with rfl|⟨t,rfl⟩
   ·exact Below.refl _ _
   ·exact Kg w _ t
  have HT1:=Box.m (HTb.o.below hb1 HTb.o.lt)
  clear HP hw1
  go_wp2_with fail
  refine(Tryz.strconv_FormatInt_10 v v0 v1 w1 HT1.o.t).mono ?_
  rintro e w2 ⟨rfl,k,os,rfl⟩
  have hb2:=vQ w1 k os
  have hb02:=hb1.trans (hb2.mono hb1.size)
  generalize Go.Sort.grow (w1.drewN k) os=w2 at hb2 hb02 ⊢
  obtain⟨D,HD⟩:∃D:ByteArray,Box (D=⟨(Lib.itoa v).toArray⟩):=⟨_,⟨rfl⟩⟩
  rw[<-HD.o]
  by_cases he:D.toList=s.toList
  ·have HR3:Box (R=some v):=⟨by
    rw[HR2.o,if_pos]
    rw[ByteArray.toList_eq,ByteArray.toList_eq,HD.o]at he
    exact he⟩
   clear HR2 HD
   go_wp2
   go_ret
   exact⟨by rw[HR3.o];rfl,hb02⟩
  ·have HR3:Box (R=none):=⟨by
    rw[HR2.o,if_neg]
    intro h
    apply he
    rw[ByteArray.toList_eq,ByteArray.toList_eq,HD.o]
    exact h⟩
   have hn:(D.toList==s.toList)=false:=beq_eq_false_iff_ne.2 he
   clear HR2 HD he
   go_wp2
   exact⟨rfl,by rw[HR3.o];rfl,hb02⟩
theorem SB{w:World}{b:Nat}{hv:Value}{hl:List Fl}{A:Option Addr}{cap:Nat}{ps:List XP}{root:Nat}(h:BN w b hv hl A cap ps root)(i:Int)(hi:¬(0<=i/\i<(ps.length:Int))):
  Calls prog 66 #[.pointer (some ⟨b,0,none⟩),.int .i64 i] w fun e w'=>e=.returned (.bool false)/\w'=w:=by
 have c1:=h.c1
 clear h
 by_cases h0:0<=i
 ·have h1:¬i<(ps.length:Int):=fun h=>hi ⟨h0,h⟩
  clear hi
  go_enter func66,ntmps66
  go_wp2
  go_ret
  exact⟨rfl,rfl⟩
 ·clear hi
  go_enter func66,ntmps66
  go_wp2
  go_ret
  exact⟨rfl,rfl⟩
theorem ZF{w:World}{b:Nat}{hv:Value}{hl:List Fl}{A:Option Addr}{cap:Nat}{ps:List XP}{root:Nat}(h:BN w b hv hl A cap ps root)(i:Int)(hi:¬(0<=i/\i<(ps.length:Int))):
  Calls prog 39 #[.pointer (some ⟨b,0,none⟩),.int .i64 i] w fun e w'=>e=.returned (.tuple #[zAV.val,.iface 25 (.int .i64 2)])/\Below w.heap.size w w':=by
 have hbA:Below w.heap.size w (w.alloc sW):=ag.alloc af _
 have HH:=Box.m (SB (h.below hbA) i hi)
 obtain⟨y0,y1,y2,y3,y4,y5,y6,y7,-⟩:=dU (aP w sW)
 clear h hi
 go_enter func39,ntmps39
 go_wp2_with (go_at_call 66;refine HH.o.mono ?_;rintro e w' ⟨rfl,rfl⟩)
 refine bodyPost_ret (v:=.tuple #[zAV.val,.iface 25 (.int .i64 2)]) (by simp[results,results39,go_sem,y0,y1,y2,y3,y4,y5,y6,y7]) rfl ⟨rfl,?_⟩
 exact hbA
theorem UT{w:World}{b:Nat}{hv:Value}{hl:List Fl}{A:Option Addr}{cap:Nat}{ps:List XP}{root:Nat}(h:BN w b hv hl A cap ps root)(i:Int)(hi:¬(0<=i/\i<(ps.length:Int))):
  Calls prog 50 #[.pointer (some ⟨b,0,none⟩),.int .i64 i] w fun e w'=>e=.returned (.tuple #[.slice none 0 0,.iface 25 (.int .i64 2)])/\Below w.heap.size w w':=by
 have HH:=Box.m (SB h i hi)
 clear h hi
 go_enter func50,ntmps50
 go_wp2_with (go_at_call 66;refine HH.o.mono ?_;rintro e w' ⟨rfl,rfl⟩)
 go_ret2
 exact⟨rfl,Below.refl _ _⟩
structure WSt(w:World)(bw off:Nat)(x:ByteArray)(w':World):Prop where
 c0:w'.cell? ⟨bw,off,none⟩=some (.string x)
 bl:Below w.heap.size w w'
theorem WSt.step{w W w':World}{bw off:Nat}{x:ByteArray}(h:WSt w bw off x W)(hb:Below W.heap.size W w'):WSt w bw off x w':=⟨(hb.cell (p:=⟨bw,off,none⟩) (GL W _ h.c0)).trans h.c0,h.bl.trans (hb.mono h.bl.size)⟩
def WN(O:Option Int)(f:Int->eU):eU:=match O with
 | none=>.error 3
 | some i=>f i
def atO(o:Option BP):eU:=match o with
 | none=>.error 2
 | some p=>.ok (isW (bQ p.loc))
def atS(σ:Dk)(ws:List (aa)):eU:=nC ws fun a=>dR σ fun b=>lN a fun i=>match fE b i with|none=>.error 2|some p=>.ok (isW (bQ p.loc))
theorem qi:∀(its:List dD) (k:Nat) (tl:aa),∀q∈aC k its,q.1+q.2.1<=k+(jc its tl).length
 | [],_,_=>by intro q hq;cases hq
 | (c,none)::its,k,tl=>by
  intro q hq
  rw[aC]at hq
  have:=qi its _ tl q hq
  rw[jc,VQ]
  omega
 | (c,some (v,true))::its,k,tl=>by
  intro q hq
  rw[aC]at hq
  rw[jc,VQ,VQ,Ws]
  rcases ZY.1 hq with rfl|hq
  ·show k+c.length+v.length<=_
   omega
  ·have:=qi its _ tl q hq
   rw[if_pos rfl]at this
   omega
 | (c,some (v,false))::its,k,tl=>by
  intro q hq
  rw[aC]at hq
  rw[jc,VQ,VQ]
  rcases ZY.1 hq with rfl|hq
  ·show k+c.length+v.length<=_
   omega
  ·have:=qi its _ tl q hq
   rw[if_neg (by decide)]at this
   omega
theorem gH(s:aa):(ed s).length<=3*s.length+2:=by
 have:∀m:aa,(m.flatMap lY).length<=3*m.length:=by
  intro m
  induction m with
  | nil=>simp
  | cons c m ih=>
   rw[List.flatMap_cons,VQ,Ws]
   have:=CB c
   omega
 have h:=this s
 unfold ed
 rw[Ws,VQ,Ws,ZV]
 omega
theorem OA(m:Nat):∀xs:List (aa),(∀x∈xs,x.length<=m)->Lib.lens xs<=xs.length*m
 | [],_=>by simp[Lib.lens]
 | x::xs,h=>by
  have h1:=OA m xs (fun y hy=>h y (List.mem_cons_of_mem _ hy))
  have h2:=h x List.mem_cons_self
  rw[Ws,Nat.succ_mul]
  simp only[Lib.lens,List.map_cons,List.sum_cons]at h1 ⊢
  omega
theorem Ay(xs:List (aa))(m n:Nat)(h:∀x∈xs,x.length<=m)(hn:xs.length<=n):(Lib.join xs [44,32]).length<=n*(m+2):=by
 cases xs with
 | nil=>simp[Lib.join]
 | cons x r=>
  rw[Lib.join_length]
  have h1:=OA m (x::r) h
  have h2:(x::r).length*m<=n*m:=Nat.mul_le_mul_right m hn
  rw[Nat.mul_add]
  simp only[Ws,ZV]at hn ⊢
  omega
theorem kw(n:Nat)(h:n<=999999999):(Lib.decDigits n).length<=10:=by
 rw[Lib.decDigits_length]
 exact fI 9 n (by omega)
theorem bE{W c w':World}(H:Below W.heap.size W c)(hb:Below c.heap.size c w'):Below W.heap.size W w':=H.trans (hb.mono H.size)
theorem Uj{a W w':World}{C g:Nat}{u0 u1 u2:Value}(h:Below W.heap.size W w')(c0:W.cell? ⟨g,0,none⟩=some u0)(c1:W.cell? ⟨g,1,none⟩=some u1)(c2:W.cell? ⟨g,2,none⟩=some u2)(hb:Below C a W)(hC:C<=W.heap.size):w'.cell? ⟨g,0,none⟩=some u0/\w'.cell? ⟨g,1,none⟩=some u1/\w'.cell? ⟨g,2,none⟩=some u2/\Below C a w':=
 ⟨(h.cell (p:=⟨g,0,none⟩) (GL W _ c0)).trans c0,(h.cell (p:=⟨g,1,none⟩) (GL W _ c1)).trans c1,(h.cell (p:=⟨g,2,none⟩) (GL W _ c2)).trans c2,hb.trans (h.mono hC)⟩
theorem YH{a W w':World}{C g:Nat}{u0 u1 u2:Value}{r:Option Nat}(h:W.grownBy w' r)(c0:W.cell? ⟨g,0,none⟩=some u0)(c1:W.cell? ⟨g,1,none⟩=some u1)(c2:W.cell? ⟨g,2,none⟩=some u2)(hb:Below C a W)(hC:C<=W.heap.size)(hr:r≠some g)(hrC:∀k,r=some k->C<=k):w'.cell? ⟨g,0,none⟩=some u0/\w'.cell? ⟨g,1,none⟩=some u1/\w'.cell? ⟨g,2,none⟩=some u2/\Below C a w':=
 ⟨iZ h hr c0,iZ h hr c1,iZ h hr c2,hb.grown h hC hrC⟩
theorem Nz(d:Nat)(v:Value)(xs:List ByteArray)(w:World)(hX:TL w v xs)(hl:fO (tls xs)<=3000)(hE:Env w):
  Calls prog 20 #[.pointer (some ⟨d,0,none⟩),v] w fun e w'=>kM (.ok (iq tu ((aC 0 (nD (dL (tls xs)))).map vD))) e/\Below w.heap.size w w':=by
 have hj:=jb hl
 have hxl:xs.length<=3000:=by rw[<-di];exact lc hl
 have HJ:=Box.m (iY v xs w hX (by omega) (by omega))
 have HE:=Box.m hE
 obtain⟨A,cap,rfl,-⟩:=hX
 generalize dL (tls xs)=J at HJ hj ⊢
 have HQ:Box (∀q∈aC 0 (nD J),q.1<=6000/\q.2.1<=6000/\q.2.2.length<=6000):=⟨fun q hq=>by
  have h1:=qi (nD J) 0 (tlP J) q hq
  have h2:=(lD J (nD J) (tlP J) (fV J) []).1
  rw[<-h2]at h1
  have h3:=pQ J q.2.2 (Z5 (f:=fun q:Nat×Nat×aa=>q.2.2) hq)
  exact⟨by omega,by omega,by omega⟩⟩
 have HQl:Box ((aC 0 (nD J)).length<=6000):=⟨by
  rw[gT]
  have:=jZ none _ _ _ (fV J)
  omega⟩
 obtain⟨K,HK⟩:∃K,Box (aC 0 (nD J)=K):=⟨_,⟨rfl⟩⟩
 rw[HK.o]at HQ HQl ⊢
 clear hl hE
 go_enter func20,ntmps20
 go_wp2_with fail
 refine HJ.o.mono ?_
 rintro e w1 ⟨t,rfl,ht,hb1⟩
 have hts:t.size<=100000000:=by rw[<-ae,ht];omega
 have HP:=Box.m (yK t w1 (HE.o.below hb1).pg hts _ _ (fV t.data.toList))
 rw[ht,HK.o]at HP
 clear HJ ht HK hts
 go_wp2_with fail
 refine HP.o.mono ?_
 rintro e w2 ⟨v2,ls,rfl,hO2,hls,hb2⟩
 have hb02:=hb1.trans (hb2.mono hb1.size)
 obtain⟨AL,capL,hv2,hcL⟩:=hO2.len
 subst hv2
 have HO2:=Box.m hO2
 have HLS:=Box.m hls
 have hll:ls.length<=6000:=by have:=HQl.o;rw[<-hls,Xu]at this;exact this
 have HLq:Box (∀j (hj:j<ls.length),ls[j].1<=6000/\ls[j].2.1<=6000/\ls[j].2.2.size<=6000):=⟨fun j hj=>by
  have:=HQ.o (lk2 ls[j]) (by rw[<-hls];exact Z5 (ZW hj))
  rw[<-ae]
  exact this⟩
 have HI:Box (∀(n:Nat) (w':World),n<=6000->Below w2.heap.size w2 w'->Calls prog 11 #[.int .i64 n] w' fun e w''=>∃D:ByteArray,e=.returned (.string D)/\D.data.toList=Lib.decDigits n/\D.size<=10/\Below w'.heap.size w' w''):=⟨fun n w' hn hb=>by
  refine(lF n w' (by omega) ((HE.o.below hb02).below hb).tb).mono ?_
  rintro e w'' ⟨rfl,hb''⟩
  exact⟨_,rfl,rfl,by rw[<-ae];exact kw n (by omega),hb''⟩⟩
 have HSh:Box (∀(s:ByteArray) (w':World),s.size<=6000->Calls prog 44 #[.string s] w' fun e w''=>∃D:ByteArray,e=.returned (.string D)/\D.data.toList=ed s.data.toList/\D.size<=20000/\Below w'.heap.size w' w''):=⟨fun s w' hs=>by
  refine(iR s w' (by omega)).mono ?_
  rintro e w'' ⟨D,rfl,hD,hb''⟩
  have:=gH s.data.toList
  rw[ae]at this
  exact⟨D,rfl,hD,by rw[<-ae,hD];omega,hb''⟩⟩
 clear HP hO2 hls hb1 hb2 HE HQ HQl
 go_wp2
 go_loopw [5,12] (fun x i wr=>∃(j:Nat) (L:List ByteArray),j<=ls.length/\i=.int .i64 j/\L.length<=j/\Box (aV wr w2.heap.size x L)/\Box (tls L=(ls.take j).map fun l=>vD (lk2 l))/\Below w2.heap.size w2 wr) (fun _ i _=>ls.length - (intOf i).toNat)
 case atStart=>exact⟨0,[],aaa _,rfl,aab _,⟨aV.nil _ _⟩,⟨rfl⟩,Below.refl _ _⟩
 case round=>
  obtain⟨j,L,hj,rfl,hLj,HO,HVL,hb⟩:=hrel
  have hsz:=hb.size
  by_cases hlt:j<ls.length
  ·rcases HO2.o.shape with⟨_,hn⟩|⟨gl,cg,hg,_,hg2,_⟩
   ·rw[hn]at hlt;exact absurd hlt (by simp)
   simp only[Value.slice.injEq]at hg
   obtain⟨rfl,_,rfl⟩:=hg
   obtain⟨e0,e1,e2⟩:=(HO2.o.below hb af).cell j hlt
   obtain⟨h0,h1,h2⟩:=HLq.o j hlt
   have HV2:Box ((ls.take (j+1)).map (fun l=>vD (lk2 l))=(ls.take j).map (fun l=>vD (lk2 l))++[Lib.decDigits ls[j].1++[32]++Lib.decDigits ls[j].2.1++[32]++ed ls[j].2.2.data.toList]):=⟨by rw[ZZ,Z0 hlt,ZX];rfl⟩
   generalize ls[j].1=q0 at e0 h0 HV2
   generalize ls[j].2.1=q1 at e1 h1 HV2
   generalize ls[j].2.2=q2 at e2 h2 HV2
   have k7:(j:Int)<(ls.length:Int):=by omega
   have k8:(0:Int)<=(j:Int):=by omega
   have hbP:Below wr.heap.size wr (wr.alloc (.cells #[.int .i64 (q0:Int),.int .i64 (q1:Int),.string q2] 84)):=ag.alloc af _
   have hbW:=hb.trans (hbP.mono hsz)
   have HOA:Box (aV (wr.alloc (.cells #[.int .i64 (q0:Int),.int .i64 (q1:Int),.string q2] 84)) w2.heap.size u5 L):=⟨World.ownsRow.alloc HO.o _⟩
   have HR3:Box (∀x,wr.heap.size<=x->u5.ownBlock≠some x):=⟨fun x hx e=>by have:=(World.ownsRow.lt HO.o x e).2;omega⟩
   have HC3:Box (∀x,u5.ownBlock=some x->w2.heap.size<=x):=⟨fun x e=>(World.ownsRow.lt HO.o x e).1⟩
   clear HO
   go_wp2_with fail
   have p0:(wr.alloc (.cells #[.int .i64 (q0:Int),.int .i64 (q1:Int),.string q2] 84)).cell? ⟨wr.heap.size,0,none⟩=some (.int .i64 (q0:Int)):=by simp
   have p1:(wr.alloc (.cells #[.int .i64 (q0:Int),.int .i64 (q1:Int),.string q2] 84)).cell? ⟨wr.heap.size,1,none⟩=some (.int .i64 (q1:Int)):=by simp
   have p2:(wr.alloc (.cells #[.int .i64 (q0:Int),.int .i64 (q1:Int),.string q2] 84)).cell? ⟨wr.heap.size,2,none⟩=some (.string q2):=by simp
   have hszW:wr.heap.size<(wr.alloc (.cells #[.int .i64 (q0:Int),.int .i64 (q1:Int),.string q2] 84)).heap.size:=by simp
   generalize wr.alloc (.cells #[.int .i64 (q0:Int),.int .i64 (q1:Int),.string q2] 84)=W at p0 p1 p2 HOA hbW hbP hszW ⊢
   have hCW:w2.heap.size<=W.heap.size:=by omega
   have hL1:L.length+1<=1000000000:=by omega
   have HD:=Box.m (Below.refl W.heap.size W).drew
   clear e0 e1 e2 hbP
   go_region_held3 (fun w'=>w'.cell? ⟨wr.heap.size,0,none⟩=some (.int .i64 (q0:Int))/\w'.cell? ⟨wr.heap.size,1,none⟩=some (.int .i64 (q1:Int))/\w'.cell? ⟨wr.heap.size,2,none⟩=some (.string q2)/\Below w2.heap.size w2 w')
    ((go_split_ands;first
     | exact Uj ag.drew p0 p1 p2 hbW hCW
     | exact Uj (by assumption) (by assumption) (by assumption) (by assumption) (by assumption) (Below.size (by assumption))
     | exact Uj (ag.alloc af _) (by assumption) (by assumption) (by assumption) (by assumption) (Below.size (by assumption))
     | exact YH hg6 (by assumption) (by assumption) (by assumption) (by assumption) (Below.size (by assumption)) (HR3.o _ af) HC3.o))
    (first
     | (go_at_call 11;refine(HI.o q0 _ h0 (by go_split_ands;assumption)).mono ?_;rintro e wa ⟨da,rfl,hda,hza,hba⟩;have hla:Below W.heap.size W wa:=(by first|exact bE HD.o hba|exact bE hla hba|exact bE hlb hba|exact bE hlc hba);try (have hz4:¬9223372036854775807<da.size+1:=(by omega));try (have hz8:¬9223372036854775807<da.size+1+db.size:=(by omega));try (have hz9:¬9223372036854775807<da.size+1+db.size+1:=(by omega));try (have hz13:¬9223372036854775807<da.size+1+db.size+1+dc.size:=(by omega)))
     | (go_at_call 11;refine(HI.o q1 _ h1 (by go_split_ands;assumption)).mono ?_;rintro e wb ⟨db,rfl,hdb,hzb,hbb⟩;have hlb:Below W.heap.size W wb:=(by first|exact bE HD.o hbb|exact bE hla hbb|exact bE hlb hbb|exact bE hlc hbb);try (have hz4:¬9223372036854775807<da.size+1:=(by omega));try (have hz8:¬9223372036854775807<da.size+1+db.size:=(by omega));try (have hz9:¬9223372036854775807<da.size+1+db.size+1:=(by omega));try (have hz13:¬9223372036854775807<da.size+1+db.size+1+dc.size:=(by omega)))
     | (go_at_call 44;refine(HSh.o q2 _ h2).mono ?_;rintro e wc ⟨dc,rfl,hdc,hzc,hbc⟩;have hlc:Below W.heap.size W wc:=(by first|exact bE HD.o hbc|exact bE hla hbc|exact bE hlb hbc|exact bE hlc hbc);try (have hz4:¬9223372036854775807<da.size+1:=(by omega));try (have hz8:¬9223372036854775807<da.size+1+db.size:=(by omega));try (have hz9:¬9223372036854775807<da.size+1+db.size+1:=(by omega));try (have hz13:¬9223372036854775807<da.size+1+db.size+1+dc.size:=(by omega)))
     | (refine uI _ (by rfl) (.tmp 16) (.tmp 30) (by rfl) w2.heap.size u5 L (by rfl) (World.ownsRow.alloc (aV.below HOA.o (by first|exact hla|exact hlb|exact hlc) af) _) _ _ (da++⟨#[32]⟩++db++⟨#[32]⟩++dc) (by rfl) (by simp) hL1 (by have hsa:=hla.size;have hsb:=hlb.size;have hsc:=hlc.size;simp;omega) ?_;intro v6 w6 hO6 hg6 hk6)
     | fail)
   all_goals
    have HO7:Box (aV w6 w2.heap.size v6 (L++[da++⟨#[32]⟩++db++⟨#[32]⟩++dc])):=⟨hO6⟩
    have HV3:Box (tls (L++[da++⟨#[32]⟩++db++⟨#[32]⟩++dc])=(ls.take (j+1)).map fun l=>vD (lk2 l)):=⟨by
     rw[HV2.o,<-HVL.o,<-hda,<-hdb,<-hdc]
     simp[tls]⟩
    obtain⟨A6,n6,c6,rfl⟩:=hO6.slice
    go_split_ands
    clear hO6 hg6 hk6 hba hbb hbc hla hlb hlc hda hdb hdc HR3 HC3 HOA HD hz4 hz8 hz9 hz13 hza hzb hzc
    go_wp2
    go_roundw
    case rel=>exact⟨j+1,_,by omega,by go_num,by rw[VQ];simp;omega,HO7,HV3,by assumption⟩
    case measure=>simp[intOf];omega
  ·have HV3:Box (tls L=K.map vD):=⟨by rw[HVL.o,Z4 (by omega),<-HLS.o,Z6];rfl⟩
   have HTl:=Box.m HO.o.tl
   obtain⟨AL2,nL,cL,rfl⟩:=HO.o.slice
   have HLd:=Box.m (uy ⟨#[108,105,110,107,115]⟩ _ L wr (by decide) HTl.o (by omega) (by
    rw[HVL.o]
    refine Z9 (Ay _ 30000 6000 ?_ ?_) (by decide)
    ·intro x hx
     obtain⟨l,hl,rfl⟩:=Z7.1 hx
     obtain⟨n,hn,hn2⟩:=List.mem_iff_getElem.1 (List.mem_of_mem_take hl)
     obtain⟨h0,h1,h2⟩:=HLq.o n hn
     rw[hn2]at h0 h1 h2
     have a0:=kw l.1 (by omega)
     have a1:=kw l.2.1 (by omega)
     have a2:=gH l.2.2.data.toList
     rw[ae]at a2
     unfold vD lk2
     simp only[VQ,Ws,ZV]
     omega
    ·rw[Xu,List.length_take];omega))
   rw[HV3.o]at HLd
   clear HVL HLS HI HSh HLq
   go_wp2_with fail
   refine HLd.o.mono ?_
   rintro e w7 ⟨T,rfl,hT,hb7⟩
   have HT:=Box.m hT
   have hbw:=(hb02.trans (hb.mono hb02.size)).trans (hb7.mono (hb02.trans (hb.mono hb02.size)).size)
   clear hT HLd
   go_wp2
   go_ret
   exact⟨⟨T,rfl,HT.o⟩,hbw⟩
def ZA:Value->Nat
 | .slice _ n _=>n
 | _=>0
def Zi:Value->Bool
 | .slice _ _ _=>true
 | _=>false
theorem VW{v:Value}(h:Zi v=true):∃A c,v=.slice A (ZA v) c:=by
 cases v<;>first|exact⟨_,_,rfl⟩|cases h
def pk2(q:P4):Bool×Nat×Value×Value×Value:=(Zi q.1,ZA q.1,q.2.1,q.2.2.1,q.2.2.2)
def pk1(p:XP):Bool×Nat×Value×Value×Value:=(true,p.fs.length,.string p.bd,.bool false,.slice none 0 0)
theorem fD.cell4{w:World}{B g cap n:Nat}{L:List P4}(h:fD w B (.slice (some ⟨g,0,none⟩) n cap) L)(k:Nat)(hk:k<L.length):w.cell? ⟨g,k*4,none⟩=some L[k].1/\w.cell? ⟨g,k*4+1,none⟩=some L[k].2.1/\w.cell? ⟨g,k*4+2,none⟩=some L[k].2.2.1/\w.cell? ⟨g,k*4+3,none⟩=some L[k].2.2.2:=by
 obtain⟨A,c,e⟩:=h.len
 simp only[Value.slice.injEq]at e
 obtain⟨rfl,rfl,rfl⟩:=e
 have h':w.ownsRow B 92 4 (.slice (some ⟨g,0,none⟩) L.length cap) L.length (dW L):=h
 obtain⟨a0,a1,a2,a3⟩:=DL L k hk
 exact⟨(World.ownsRow.cellAt h' (k*4) (by omega)).trans a0,(World.ownsRow.cellAt h' (k*4+1) (by omega)).trans a1,(World.ownsRow.cellAt h' (k*4+2) (by omega)).trans a2,(World.ownsRow.cellAt h' (k*4+3) (by omega)).trans a3⟩
theorem Jk{w:World}{b:Nat}{hv:Value}{hl:List Fl}{A:Option Addr}{cap:Nat}{ps:List XP}{root:Nat}(h:BN w b hv hl A cap ps root):
  Calls prog 54 #[.pointer (some ⟨b,0,none⟩)] w fun e w'=>∃u L,e=.returned u/\fD w' w.heap.size u L/\L.map pk2=ps.map pk1/\Below w.heap.size w w':=by
 have HB:=Box.m h
 have c1:=h.c1
 have hcap:=h.cap
 have hplen:=h.xl.len
 clear h
 go_enter func54,ntmps54
 go_wp2
 go_loopw [3,11] (fun x i wr=>∃(j:Nat) (L:List P4),j<=ps.length/\i=.int .i64 j/\L.length<=j/\Box (fD wr w.heap.size x L)/\Box (L.map pk2=(ps.take j).map pk1)/\Below w.heap.size w wr) (fun _ i _=>ps.length - (intOf i).toNat)
 case atStart=>exact⟨0,[],aaa _,rfl,aab _,⟨fD.nil _ _⟩,⟨rfl⟩,Below.refl _ _⟩
 case round=>
  obtain⟨j,L,hj,rfl,hLj,HO,HV,hb⟩:=hrel
  have hsz:=hb.size
  by_cases hlt:j<ps.length
  ·have HBr:=Box.m (HB.o.below hb)
   obtain⟨g,off,e1,hx⟩:=HBr.o.xl.at_ j hlt
   subst e1
   have HXS:=Box.m (HBr.o.xl.sm ps[j] (ZW hlt))
   have HV2:Box ((ps.take (j+1)).map pk1=(ps.take j).map pk1++[pk1 ps[j]]):=⟨by rw[ZZ,Z0 hlt,ZX];rfl⟩
   generalize ps[j]=p at hx HXS HV2
   have hbP:Below wr.heap.size wr (wr.alloc (fq p)):=ag.alloc af _
   have hgP:=aP wr (fq p)
   have HFl:=Box.m (HXS.o.fl.below hbP af)
   have HTi:=Box.m HXS.o.hs.half.tiny
   have HOA:Box (fD (wr.alloc (fq p)) w.heap.size u3 L):=⟨World.ownsRow.alloc HO.o _⟩
   obtain⟨AH,capH,hvH,-,-⟩:=_root_.id HXS.o.fl
   obtain⟨hd,fs,bd,id,⟨a0,a1,a2,a3,a4,a5,a6,a7⟩⟩:=p
   simp only at hvH
   subst hvH
   obtain⟨f0,f1,f2,f3,f4,f5,f6,f7,f8,f9,fa⟩:=hx
   have k1:(0:Int)<=(j:Int):=by omega
   have k2:(j:Int)<(ps.length:Int):=by omega
   unfold fq at hbP hgP HFl HOA
   simp only at hbP hgP HFl HOA HTi HV2 f0 f1 f2 f3 f4 f5 f6 f7 f8 f9 fa
   have HR3:Box (∀x,wr.heap.size<=x->u3.ownBlock≠some x):=⟨fun x hx e=>by have:=(World.ownsRow.lt HO.o x e).2;omega⟩
   have HC3:Box (∀x,u3.ownBlock=some x->w.heap.size<=x):=⟨fun x e=>(World.ownsRow.lt HO.o x e).1⟩
   have hbW:=hb.trans (hbP.mono hsz)
   clear HO HXS
   go_wp2_with fail
   obtain⟨p0,p1,-⟩:=uh (p:=⟨.slice AH fs.length capH,fs,bd,id,⟨a0,a1,a2,a3,a4,a5,a6,a7⟩⟩) hgP
   simp only[Nat.zero_add]at p0 p1
   have hszW:wr.heap.size<(wr.alloc (.cells #[.slice AH fs.length capH,.string bd,.string id,.string a0,.bool a1,.string a2,.string a3,.bool a4,.string a5,.bool a6,.string a7] 104)).heap.size:=by simp
   generalize wr.alloc (.cells #[.slice AH fs.length capH,.string bd,.string id,.string a0,.bool a1,.string a2,.string a3,.bool a4,.string a5,.bool a6,.string a7] 104)=W at p0 p1 hgP HFl HOA hbW hbP hszW ⊢
   have hCW:w.heap.size<=W.heap.size:=by omega
   have hL1:L.length+1<=1000000:=by omega
   clear f0 f1 f2 f3 f4 f5 f6 f7 f8 f9 fa hgP hbP
   go_region_held3 (fun w'=>w'.cell? ⟨wr.heap.size,0,none⟩=some (.slice AH fs.length capH)/\w'.cell? ⟨wr.heap.size,1,none⟩=some (.string bd)/\Below w.heap.size w w')
    ((go_split_ands;first
     | exact nZ ag.drew p0 p1 hbW hCW
     | exact nZ hb5 (by assumption) (by assumption) (by assumption) (Below.size (by assumption))
     | exact nZ (ag.alloc af _) (by assumption) (by assumption) (by assumption) (Below.size (by assumption))
     | exact F8 hg6 (by assumption) (by assumption) (by assumption) (Below.size (by assumption)) (HR3.o _ af) HC3.o))
    (first
     | (go_at_call 103;refine(pI (.slice AH fs.length capH) fs _ HTi.o (HFl.o.below (by exact(Below.refl W.heap.size W).drew) af)).mono ?_;rintro e w5 ⟨u5,rfl,hO5,hb5⟩;obtain⟨A5,cp5,rfl,-⟩:=pM hO5)
     | (refine yU _ (by rfl) (.tmp 15) (.tmp 22) (by rfl) w.heap.size u3 L (by rfl) (World.ownsRow.alloc (fD.belowP HOA.o ((Below.refl W.heap.size W).drew.trans hb5) af) _) _ _ (.slice A5 fs.length cp5,.string bd,.bool false,.slice none 0 0) (by rfl) (by simp) (by simp) (by simp) (by simp) ⟨rfl,rfl,rfl,rfl⟩ hL1 (by have:=hb5.size;simp at this ⊢;omega) ?_;intro v6 w6 hO6 hg6 hk6)
     | fail)
   have HO7:Box (fD w6 w.heap.size v6 (L++[(.slice A5 fs.length cp5,.string bd,.bool false,.slice none 0 0)])):=⟨hO6⟩
   go_split_ands
   clear hO6 hg6 hk6 hO5 hb5 HR3 HC3 HOA HFl HTi
   go_wp2
   go_roundw
   case rel=>exact⟨j+1,_,by omega,by go_num,by rw[VQ];simp;omega,HO7,⟨by rw[ZX,HV.o,HV2.o];rfl⟩,by assumption⟩
   case measure=>simp[intOf];omega
  ·have HE:Box (L.map pk2=ps.map pk1):=⟨by rw[HV.o,Z4 (by omega)]⟩
   clear HV
   rcases HO.o.shape with⟨rfl,_⟩|⟨g2,cap2,rfl,_⟩
   all_goals
    go_wp2
    go_ret
    exact⟨_,_,rfl,HO.o,HE.o,hb⟩
def Ni(σ:Dk)(ws:List (aa)):eU:=rT ws (dR σ fun b=>.ok (iq oZ (b.ps.map oC)))
theorem Mq{Xf:Nat->Prop}{w:World}{d:Nat}{σ:Dk}(h:DS Xf w d σ)(v:Value)(xs:List ByteArray)(hX:TL w v xs)(hE:lg w d):
  Calls prog 23 #[.pointer (some ⟨d,0,none⟩),v] w fun e w'=>kM (Ni σ (tls xs)) e/\Below w.heap.size w w':=by
 have hdl:=h.lt
 by_cases h1:xs.length=0
 ·obtain rfl:xs=[]:=List.length_eq_zero_iff.1 h1
  obtain⟨A,cap,rfl,-⟩:=hX
  have HN:=Box.m (jl A 0 cap w)
  obtain⟨R,HR⟩:∃R,Box (Ni σ (tls [])=R):=⟨_,⟨rfl⟩⟩
  rw[HR.o]
  have HE:=Box.m (hE.env (aac hdl))
  clear h1 hE
  cases hb:σ.bd with
  | none=>
   have HR2:Box (R=.error 7):=⟨by rw[<-HR.o];show dR σ _=_;unfold dR;rw[hb]⟩
   have HDd:=Box.m (nz h hb)
   clear HR hb h
   go_enter func23,ntmps23
   go_wp2_with fail
   refine HN.o.mono ?_
   rintro e w1 ⟨rfl,hw1⟩
   obtain rfl:=hw1.symm
   go_wp2_with fail
   refine HDd.o.mono ?_
   rintro e w1 ⟨rfl,hw1⟩
   obtain rfl:=hw1.symm
   go_wp2
   exact⟨rfl,by rw[HR2.o];rfl,Below.refl _ _⟩
  | some bb=>
   obtain⟨g,hv,hl,A2,cp,ps,root,c1,hB,hbb,-⟩:=h.yes bb hb
   have HDd:=Box.m (lL c1)
   have HR2:Box (R=.ok (iq oZ (ps.map fun p=>oC p.bp))):=⟨by rw[<-HR.o];show dR σ _=_;unfold dR;rw[hb,hbb];show Except.ok (iq oZ ((ps.map XP.bp).map oC))=_;rw[Z6];rfl⟩
   have HP:=Box.m (Jk hB)
   have hpl:=hB.xl.len
   have HPs:Box (∀p∈ps,p.fs.length<=100000/\p.bd.size<=100000):=⟨fun p hp=>⟨(hB.xl.sm p hp).hs.1,(hB.xl.sm p hp).bs⟩⟩
   clear HR hb h c1 hB hbb
   go_enter func23,ntmps23
   go_wp2_with fail
   refine HN.o.mono ?_
   rintro e w1 ⟨rfl,hw1⟩
   obtain rfl:=hw1.symm
   go_wp2_with fail
   refine HDd.o.mono ?_
   rintro e w1 ⟨rfl,hw1⟩
   obtain rfl:=hw1.symm
   go_wp2_with fail
   refine HP.o.mono ?_
   rintro e w2 ⟨u2,P,rfl,hO2,hP,hb2⟩
   obtain⟨AL,capL,hv2⟩:=hO2.len
   subst hv2
   have HO2:=Box.m hO2
   have hPl:P.length=ps.length:=by have:=congrArg List.length hP;simpa using this
   have HPk:Box (∀k (hk:k<P.length),pk2 P[k]=pk1 (ps[k]'(by omega))):=⟨fun k hk=>by
    have e1:(P.map pk2)[k]'(by rw[Xu];exact hk)=pk2 P[k]:=Z8 _
    have e2:(ps.map pk1)[k]'(by rw[Xu];omega)=pk1 (ps[k]'(by omega)):=Z8 _
    rw[<-e1,<-e2]
    simp[hP]⟩
   have HI:Box (∀(n:Nat) (w':World),n<=100000->Below w2.heap.size w2 w'->Calls prog 11 #[.int .i64 n] w' fun e w''=>∃D:ByteArray,e=.returned (.string D)/\D.data.toList=Lib.decDigits n/\D.size<=10/\Below w'.heap.size w' w''):=⟨fun n w' hn hb=>by
    refine(lF n w' (by omega) ((HE.o.below hb2).below hb).tb).mono ?_
    rintro e w'' ⟨rfl,hb''⟩
    exact⟨_,rfl,rfl,by rw[<-ae];exact kw n (by omega),hb''⟩⟩
   have HSh:Box (∀(s:ByteArray) (w':World),s.size<=100000->Calls prog 44 #[.string s] w' fun e w''=>∃D:ByteArray,e=.returned (.string D)/\D.data.toList=ed s.data.toList/\D.size<=400000/\Below w'.heap.size w' w''):=⟨fun s w' hs=>by
    refine(iR s w' (by omega)).mono ?_
    rintro e w'' ⟨D,rfl,hD,hb''⟩
    have:=gH s.data.toList
    rw[ae]at this
    exact⟨D,rfl,hD,by rw[<-ae,hD];omega,hb''⟩⟩
   clear HP hO2 hP HE HN HDd
   go_wp2
   go_loopw [5,14] (fun x i wr=>∃(j:Nat) (L:List ByteArray),j<=P.length/\i=.int .i64 j/\L.length<=j/\Box (aV wr w2.heap.size x L)/\Box (tls L=(ps.take j).map fun p=>oC p.bp)/\Below w2.heap.size w2 wr) (fun _ i _=>P.length - (intOf i).toNat)
   case atStart=>exact⟨0,[],aaa _,rfl,aab _,⟨aV.nil _ _⟩,⟨rfl⟩,Below.refl _ _⟩
   case round=>
    obtain⟨j,L,hj,rfl,hLj,HO,HVL,hb⟩:=hrel
    have hsz:=hb.size
    by_cases hlt:j<P.length
    ·rcases HO2.o.shape with⟨_,hn⟩|⟨gl,cg,hg,_,hg2,_⟩
     ·rw[hn]at hlt;exact absurd hlt (by simp)
     simp only[Value.slice.injEq]at hg
     obtain⟨rfl,_,rfl⟩:=hg
     obtain⟨e0,e1,e2,e3⟩:=(fD.belowP HO2.o hb af).cell4 j hlt
     have hlt2:j<ps.length:=by omega
     obtain⟨h0,h1⟩:=HPs.o ps[j] (ZW hlt2)
     have hk:=HPk.o j hlt
     have HV2:Box ((ps.take (j+1)).map (fun p=>oC p.bp)=(ps.take j).map (fun p=>oC p.bp)++[Lib.decDigits ps[j].fs.length++[32]++ed ps[j].bd.data.toList]):=⟨by
      rw[ZZ,Z0 hlt2,ZX]
      show _++[oC ps[j].bp]=_
      unfold oC XP.bp
      simp only[Xu]⟩
     generalize P[j]=Pj at hk e0 e1 e2 e3
     obtain⟨y0,y1,y2,y3⟩:=Pj
     unfold pk2 pk1 at hk
     simp only[Prod.mk.injEq]at hk
     obtain⟨s0,s1,rfl,rfl,rfl⟩:=hk
     obtain⟨AH,cH,hy0⟩:=VW s0
     rw[s1]at hy0
     subst hy0
     simp only at e0 e1 e2 e3
     clear s0 s1
     generalize ps[j].fs.length=q0 at e0 h0 HV2
     generalize ps[j].bd=q1 at e1 h1 HV2
     have k7:(j:Int)<(P.length:Int):=by omega
     have k8:(0:Int)<=(j:Int):=by omega
     have hbP:Below wr.heap.size wr (wr.alloc (.cells #[.slice AH q0 cH,.string q1,.bool false,.slice none 0 0] 92)):=ag.alloc af _
     have hbW:=hb.trans (hbP.mono hsz)
     have HOA:Box (aV (wr.alloc (.cells #[.slice AH q0 cH,.string q1,.bool false,.slice none 0 0] 92)) w2.heap.size u5 L):=⟨World.ownsRow.alloc HO.o _⟩
     have HR3:Box (∀x,wr.heap.size<=x->u5.ownBlock≠some x):=⟨fun x hx e=>by have:=(World.ownsRow.lt HO.o x e).2;omega⟩
     have HC3:Box (∀x,u5.ownBlock=some x->w2.heap.size<=x):=⟨fun x e=>(World.ownsRow.lt HO.o x e).1⟩
     clear HO
     go_wp2_with fail
     have p0:(wr.alloc (.cells #[.slice AH q0 cH,.string q1,.bool false,.slice none 0 0] 92)).cell? ⟨wr.heap.size,0,none⟩=some (.slice AH q0 cH):=by simp
     have p1:(wr.alloc (.cells #[.slice AH q0 cH,.string q1,.bool false,.slice none 0 0] 92)).cell? ⟨wr.heap.size,1,none⟩=some (.string q1):=by simp
     have hszW:wr.heap.size<(wr.alloc (.cells #[.slice AH q0 cH,.string q1,.bool false,.slice none 0 0] 92)).heap.size:=by simp
     generalize (wr.alloc (.cells #[.slice AH q0 cH,.string q1,.bool false,.slice none 0 0] 92))=W at p0 p1 HOA hbW hbP hszW ⊢
     have hCW:w2.heap.size<=W.heap.size:=by omega
     have hL1:L.length+1<=1000000000:=by omega
     have HD:=Box.m (Below.refl W.heap.size W).drew
     clear e0 e1 e2 e3 hbP
     go_region_held3 (fun w'=>w'.cell? ⟨wr.heap.size,0,none⟩=some (.slice AH q0 cH)/\w'.cell? ⟨wr.heap.size,1,none⟩=some (.string q1)/\Below w2.heap.size w2 w')
      ((go_split_ands;first
       | exact nZ ag.drew p0 p1 hbW hCW
       | exact nZ (by assumption) (by assumption) (by assumption) (by assumption) (Below.size (by assumption))
       | exact nZ (ag.alloc af _) (by assumption) (by assumption) (by assumption) (Below.size (by assumption))
       | exact F8 hg6 (by assumption) (by assumption) (by assumption) (Below.size (by assumption)) (HR3.o _ af) HC3.o))
      (first
       | (go_at_call 11;refine(HI.o q0 _ h0 (by go_split_ands;assumption)).mono ?_;rintro e wa ⟨da,rfl,hda,hza,hba⟩;have hla:Below W.heap.size W wa:=(by first|exact bE HD.o hba|exact bE hlb hba);have hz4:¬9223372036854775807<da.size+1:=(by omega);try (have hz8:¬9223372036854775807<da.size+1+db.size:=(by omega)))
       | (go_at_call 44;refine(HSh.o q1 _ h1).mono ?_;rintro e wb ⟨db,rfl,hdb,hzb,hbb⟩;have hlb:Below W.heap.size W wb:=(by first|exact bE HD.o hbb|exact bE hla hbb);try (have hz8:¬9223372036854775807<da.size+1+db.size:=(by omega)))
       | (refine uI _ (by rfl) (.tmp 18) (.tmp 28) (by rfl) w2.heap.size u5 L (by rfl) (World.ownsRow.alloc (aV.below HOA.o (by first|exact hla|exact hlb) af) _) _ _ (da++⟨#[32]⟩++db) (by rfl) (by simp) hL1 (by have hsa:=hla.size;have hsb:=hlb.size;simp;omega) ?_;intro v6 w6 hO6 hg6 hk6)
       | fail)
     all_goals
      have HO7:Box (aV w6 w2.heap.size v6 (L++[da++⟨#[32]⟩++db])):=⟨hO6⟩
      have HV3:Box (tls (L++[da++⟨#[32]⟩++db])=(ps.take (j+1)).map fun p=>oC p.bp):=⟨by
       rw[HV2.o,<-HVL.o,<-hda,<-hdb]
       simp[tls]⟩
      obtain⟨A6,n6,c6,rfl⟩:=hO6.slice
      go_split_ands
      clear hO6 hg6 hk6 hba hbb hla hlb hda hdb HR3 HC3 HOA HD hz4 hz8 hza hzb
      go_wp2
      go_roundw
      case rel=>exact⟨j+1,_,by omega,by go_num,by rw[VQ];simp;omega,HO7,HV3,by assumption⟩
      case measure=>simp[intOf];omega
    ·have HV3:Box (tls L=ps.map fun p=>oC p.bp):=⟨by rw[HVL.o,Z4 (by omega)]⟩
     have HTl:=Box.m HO.o.tl
     obtain⟨AL2,nL,cL,rfl⟩:=HO.o.slice
     have HLd:=Box.m (uy ⟨#[112,97,114,116,115]⟩ _ L wr (by decide) HTl.o (by omega) (by
      rw[HV3.o]
      refine Z9 (Ay _ 400000 60 ?_ ?_) (by decide)
      ·intro x hx
       obtain⟨p,hp,rfl⟩:=Z7.1 hx
       obtain⟨h0,h1⟩:=HPs.o p hp
       have a0:=kw p.fs.length (by omega)
       have a2:=gH p.bd.data.toList
       rw[ae]at a2
       unfold oC XP.bp
       simp only[VQ,Ws,ZV,Xu]
       omega
      ·rw[Xu];omega))
     rw[HV3.o]at HLd
     clear HVL HI HSh HPs HPk
     go_wp2_with fail
     refine HLd.o.mono ?_
     rintro e w7 ⟨T,rfl,hT,hb7⟩
     have HT:=Box.m hT
     have hbw:=(hb2.trans (hb.mono hb2.size)).trans (hb7.mono (hb2.trans (hb.mono hb2.size)).size)
     clear hT HLd
     go_wp2
     go_ret
     exact⟨by rw[HR2.o];exact⟨T,rfl,HT.o⟩,hbw⟩
 ·have hn:Ni σ (tls xs)=.error 3:=IM (by rw[di];exact h1) _
  rw[hn]
  obtain⟨A,cap,rfl,-⟩:=hX
  have HN:=Box.m (kD A xs.length cap 0 w h1)
  clear hE hn h1 h
  go_enter func23,ntmps23
  go_wp2_with fail
  refine HN.o.mono ?_
  rintro e w1 ⟨rfl,hw1⟩
  obtain rfl:=hw1.symm
  go_wp2
  exact⟨rfl,rfl,Below.refl _ _⟩
theorem via{P Q:Prop}(tree:Box P->Q)(t:P):Q:=tree ⟨t⟩
theorem bH{P:Program}{ops:Array Oper}{Q:Exit->Act->World->Prop}{md:Region.Mode}{S:World->Prop}{k:Nat}{fuel:Nat}{listed listed':Array Bool}{a:Act}{w:World}(h:listed=listed')(H:eT P md ops Q S k fuel listed' a w):eT P md ops Q S k fuel listed a w:=h▸H
theorem bq{P:Program}{ops:Array Oper}{Q:Exit->Act->World->Prop}{md:Region.Mode}{S:World->Prop}{k i j:Nat}{o o':Oper}{fuel:Nat}{listed:Array Bool}{a:Act}{w:World}(hr:Region.ready md ops listed=[i,j])(ho:ops[i]?=some o)(ho':ops[j]?=some o')
  (h:∀K':Act->World->Prop,Shut (∀a w,(i≠k->S w)->eT P md ops Q S k fuel (listed.setIfInBounds i true) a w->K' a w)->if Region.wanted o (yielded ops a.tmps)=true then Oper.wp P o a w K' Q else K' (a.put o.dst undef) w)
  (h':∀K':Act->World->Prop,Shut (∀a w,(j≠k->S w)->eT P md ops Q S k fuel (listed.setIfInBounds j true) a w->K' a w)->if Region.wanted o' (yielded ops a.tmps)=true then Oper.wp P o' a w K' Q else K' (a.put o'.dst undef) w):eT P md ops Q S k (fuel+1) listed a w:=by
 refine⟨fun h0=>(by rw[hr]at h0;cases h0),fun m hm=>?_⟩
 rw[hr]at hm
 rcases ZY.1 hm with rfl|hm
 ·exact wpOp_step ho (fun K' hK=>h K' (fun a w hS hW=>hK a w ⟨hS,hW⟩))
 ·obtain rfl:=List.mem_singleton.1 hm
  exact wpOp_step ho' (fun K' hK=>h' K' (fun a w hS hW=>hK a w ⟨hS,hW⟩))
theorem WSt.of{w w':World}{bw off:Nat}{x:ByteArray}(h:w.cell? ⟨bw,off,none⟩=some (.string x))(hb:Below w.heap.size w w'):WSt w bw off x w':=⟨(hb.cell (p:=⟨bw,off,none⟩) (GL w _ h)).trans h,hb⟩
theorem WSt.new{w W:World}{bw off:Nat}{x:ByteArray}(h:WSt w bw off x W):∃W1 bA,W.alloc xL=W1/\W.heap.size=bA/\W1.heap[bA]?=some xL/\w.heap.size<=bA/\WSt w bw off x W1:=⟨_,_,rfl,rfl,aP W xL,h.bl.size,h.step (ag.alloc af _)⟩
theorem Xj{Xf:Nat->Prop}{w:World}{d:Nat}{σ:Dk}(h:DS Xf w d σ)(v:Value)(xs:List ByteArray)(hX:TL w v xs)(hl:fO (tls xs)<=3000)(hE:lg w d):
  Calls prog 13 #[.pointer (some ⟨d,0,none⟩),v] w fun e w'=>kM (atS σ (tls xs)) e/\Below w.heap.size w w':=by
 by_cases h1:xs.length=1
 ·obtain⟨x,rfl⟩:∃x,xs=[x]:=List.length_eq_one_iff.1 h1
  have hx:=kZ hl x (by simp)
  have hX0:=hX
  obtain⟨A,cap,rfl,-⟩:=hX
  obtain⟨bw,off,rfl,c0⟩:=hX0.one
  have HC0:=Box.m c0
  have HN:=Box.m (jl (some ⟨bw,off,none⟩) 1 cap w)
  have hdl:=h.lt
  have HE:=Box.m hE
  have HNm:Box (∀w',Below w.heap.size w w'->Calls prog 40 #[.string x] w' fun e w''=>VM (kC x.data.toList) e/\Below w'.heap.size w' w''):=⟨fun w' hb=>zF x w' d hx (hE.below (hb.mono (aac hdl)))⟩
  obtain⟨R,HR⟩:∃R,Box (atS σ (tls [x])=R):=⟨_,⟨rfl⟩⟩
  rw[HR.o]
  clear hX0 hl hE h1 c0
  go_enter func13,ntmps13
  go_wp2_with fail
  refine HN.o.mono ?_
  rintro e w1 ⟨rfl,hw1⟩
  obtain rfl:=hw1.symm
  go_wp2_with fail
  refine fC 12 (WSt w bw off x) (by kernel_rfl) ?_
  obtain⟨wD,eD,hS⟩:∃wD,w.drew=wD/\WSt w bw off x wD:=⟨_,rfl,WSt.of HC0.o ag.drew⟩
  rw[eD]
  clear eD
  refine aj (i:=0) (n:=10) (.pointer (some ⟨d,0,none⟩)) rfl rfl (by kernel_rfl) (by kernel_rfl) (by kernel_rfl) (by kernel_rfl) (fun _ _ _ h=>h) rfl (fun w' hS'=>?_) hS ?_
  ·clear hS' hS
   go_simp<;>with_reducible rfl
  simp only[Act.put,aH,aG,aI]
  refine aj (i:=2) (n:=12) (.slice (some ⟨bw,off,none⟩) 1 cap) rfl rfl (by kernel_rfl) (by kernel_rfl) (by kernel_rfl) (by kernel_rfl) (fun _ _ _ h=>h) rfl (fun w' hS'=>?_) hS ?_
  ·clear hS' hS
   go_simp<;>with_reducible rfl
  simp only[Act.put,aH,aG,aI]
  refine aj (i:=3) (n:=13) (.pointer (some ⟨bw,off,none⟩)) rfl rfl (by kernel_rfl) (by kernel_rfl) (by kernel_rfl) (by kernel_rfl) (fun _ _ _ h=>h) rfl (fun w' hS'=>?_) hS ?_
  ·clear hS' hS
   go_simp<;>with_reducible rfl
  simp only[Act.put,aH,aG,aI]
  refine aj (i:=4) (n:=14) (.string x) rfl rfl (by kernel_rfl) (by kernel_rfl) (by kernel_rfl) (by kernel_rfl) (fun _ _ _ h=>h) rfl (fun w' hS'=>?_) hS ?_
  ·have l0:=hS'.c0
   clear hS' hS
   go_simp<;>with_reducible rfl
  simp only[Act.put,aH,aG,aI]
  cases hb:σ.bd with
  | none=>
   have HR2:Box (R=.error 7):=⟨by rw[<-HR.o];show dR σ _=_;unfold dR;rw[hb]⟩
   have HDd:Box (∀w',Below w.heap.size w w'->Calls prog 38 #[.pointer (some ⟨d,0,none⟩)] w' fun e w''=>e=dP 7/\w''=w'):=⟨fun w' hb'=>nz (h.below hb') hb⟩
   clear HR hb h HNm
   refine bq (i:=1) (j:=10) (by kernel_rfl) rfl rfl (fun K' hK=>?_) (fun K' hK=>?_)
   ·rw[if_pos (by rfl)]
    go_wp2_with fail
    refine(HDd.o _ hS.bl).mono ?_
    rintro e w5 ⟨rfl,hw5⟩
    obtain rfl:=hw5.symm
    exact⟨rfl,by rw[HR2.o];rfl,hS.bl⟩
   ·rw[if_pos (by rfl)]
    go_wp2
    refine hK.out _ _ (fun _=>hS.step (ag.alloc af _)) ?_
    clear hK
    obtain⟨W1,bA,eW,eb,hA,hAl,hS⟩:=hS.new
    rw[eW,eb]
    clear eW eb
    refine ai (i:=1) (by kernel_rfl) rfl (fun K' hK=>?_)
    rw[if_pos (by rfl)]
    go_wp2_with fail
    refine(HDd.o _ hS.bl).mono ?_
    rintro e w5 ⟨rfl,hw5⟩
    obtain rfl:=hw5.symm
    exact⟨rfl,by rw[HR2.o];rfl,hS.bl⟩
  | some bb=>
   obtain⟨g,hv,hl,A2,cp,ps,root,c1,hB,hbb,-⟩:=h.yes bb hb
   have HDd:Box (∀w',Below w.heap.size w w'->Calls prog 38 #[.pointer (some ⟨d,0,none⟩)] w' fun e w''=>e=.returned (.pointer (some ⟨g,0,none⟩))/\w''=w'):=⟨fun w' hb'=>lL ((hb'.cell (p:=⟨d,1,none⟩) hdl).trans c1)⟩
   have hps:bb.ps=ps.map XP.bp:=by rw[hbb]
   have HB:=Box.m hB
   have HR2:Box (R=WN (kC x.data.toList) fun i=>atO (fE bb i)):=⟨by rw[<-HR.o];show dR σ _=_;unfold dR;rw[hb];rfl⟩
   clear HR hb h c1 hB hbb
   obtain⟨O,HO⟩:∃O,Box (kC x.data.toList=O):=⟨_,⟨rfl⟩⟩
   rw[HO.o]at HNm
   have HR3:Box (R=WN O fun i=>atO (fE bb i)):=⟨by rw[HR2.o,HO.o]⟩
   clear HR2 HO
   cases O with
   | none=>
    have HR2:Box (R=.error 3):=⟨HR3.o⟩
    clear HR3
    refine bq (i:=1) (j:=10) (by kernel_rfl) rfl rfl (fun K' hK=>?_) (fun K' hK=>?_)
    ·rw[if_pos (by rfl)]
     go_wp2_with (go_at_call 38;refine(HDd.o _ hS.bl).mono ?_;rintro e w5 ⟨rfl,hw5⟩;obtain rfl:=hw5.symm)
     refine hK.out _ _ (fun _=>hS) ?_
     clear hK
     refine bq (i:=5) (j:=10) (by kernel_rfl) rfl rfl (fun K' hK=>?_) (fun K' hK=>?_)
     ·rw[if_pos (by rfl)]
      go_wp2_with fail
      refine(HNm.o _ hS.bl).mono ?_
      rintro e w5 ⟨he,hb5⟩
      have he:e=dP 3:=he
      subst he
      exact⟨rfl,by rw[HR2.o];rfl,(hS.step hb5).bl⟩
     ·rw[if_pos (by rfl)]
      go_wp2
      refine hK.out _ _ (fun _=>hS.step (ag.alloc af _)) ?_
      clear hK
      obtain⟨W1,bA,eW,eb,hA,hAl,hS⟩:=hS.new
      rw[eW,eb]
      clear eW eb
      refine ai (i:=5) (by kernel_rfl) rfl (fun K' hK=>?_)
      rw[if_pos (by rfl)]
      go_wp2_with fail
      refine(HNm.o _ hS.bl).mono ?_
      rintro e w5 ⟨he,hb5⟩
      have he:e=dP 3:=he
      subst he
      exact⟨rfl,by rw[HR2.o];rfl,(hS.step hb5).bl⟩
    ·rw[if_pos (by rfl)]
     go_wp2
     refine hK.out _ _ (fun _=>hS.step (ag.alloc af _)) ?_
     clear hK
     obtain⟨W1,bA,eW,eb,hA,hAl,hS⟩:=hS.new
     rw[eW,eb]
     clear eW eb
     refine ai (i:=1) (by kernel_rfl) rfl (fun K' hK=>?_)
     rw[if_pos (by rfl)]
     go_wp2_with (go_at_call 38;refine(HDd.o _ hS.bl).mono ?_;rintro e w5 ⟨rfl,hw5⟩;obtain rfl:=hw5.symm)
     refine hK.out _ _ (fun _=>hS) ?_
     clear hK
     refine ai (i:=5) (by kernel_rfl) rfl (fun K' hK=>?_)
     rw[if_pos (by rfl)]
     go_wp2_with fail
     refine(HNm.o _ hS.bl).mono ?_
     rintro e w5 ⟨he,hb5⟩
     have he:e=dP 3:=he
     subst he
     exact⟨rfl,by rw[HR2.o];rfl,(hS.step hb5).bl⟩
   | some i=>
    by_cases hin:0<=i/\i<(ps.length:Int)
    ·obtain⟨k,rfl⟩:∃k:Nat,i=(k:Int):=⟨i.toNat,by omega⟩
     have hk:k<ps.length:=by omega
     have HR2:Box (R=.ok (isW (bQ ps[k].loc.ab))):=⟨by
      rw[HR3.o]
      show atO (fE bb (k:Int))=_
      have:fE bb (k:Int)=some ps[k].bp:=by
       unfold fE
       rw[if_pos (by omega),hps]
       simp[hk]
      rw[this]
      rfl⟩
     have HAt:Box (∀w',Below w.heap.size w w'->Calls prog 39 #[.pointer (some ⟨g,0,none⟩),.int .i64 (k:Int)] w' fun e w''=>e=.returned (.tuple #[ps[k].loc.val,.nilIface])/\Below w'.heap.size w' w''):=⟨fun w' hb'=>Y3 (HB.o.below hb') k hk⟩
     have HSm:Box (ps[k].loc.Small 270000):=⟨(HB.o.xl.sm ps[k] (ZW hk)).ad⟩
     generalize ps[k].loc=av at HR2 HAt HSm
     have HWr:Box (∀w',Calls prog 42 #[av.val] w' fun e w''=>e=.returned (.string (iG av))/\Below w'.heap.size w' w''):=⟨fun w'=>rC av w' ⟨Z9 HSm.o.sc (by decide),Z9 HSm.o.au (by decide),Z9 HSm.o.pa (by decide),Z9 HSm.o.qu (by decide),Z9 HSm.o.fr (by decide)⟩⟩
     have HWl:Box ((iG av).data.toList=bQ av.ab):=⟨rfl⟩
     have hws:(iG av).size<=10000000:=Z9 (j3 av _ HSm.o) (by decide)
     generalize iG av=WB at HWr HWl hws
     obtain⟨x0,x1,x2,x3,x4,x5,x6,x7⟩:=av
     generalize hi:(k:Int)=i at HNm HAt
     clear HR3 hps HSm hin hk hi
     revert hS;revert wD
     apply via
     case tree=>
      intro T wD hS
      refine bq (i:=1) (j:=10) (by kernel_rfl) rfl rfl (fun K' hK=>?_) (fun K' hK=>?_)
      ·rw[if_pos (by rfl)]
       go_wp2_with (go_at_call 38;refine(HDd.o _ hS.bl).mono ?_;rintro e w5 ⟨rfl,hw5⟩;obtain rfl:=hw5.symm)
       refine hK.out _ _ (fun _=>hS) ?_
       clear hK
       refine bq (i:=5) (j:=10) (by kernel_rfl) rfl rfl (fun K' hK=>?_) (fun K' hK=>?_)
       ·rw[if_pos (by rfl)]
        go_wp2_with (go_at_call 40;refine(HNm.o _ hS.bl).mono ?_;rintro e w5 ⟨he,hb5⟩;obtain rfl:e=.returned (.int .i64 i):=he)
        have hS5:=hS.step hb5
        refine hK.out _ _ (fun _=>hS5) ?_
        clear hK hS
        have hS:=hS5
        clear hS5
        clear hb5
        refine bq (i:=6) (j:=10) (by kernel_rfl) rfl rfl (fun K' hK=>?_) (fun K' hK=>?_)
        ·rw[if_pos (by rfl)]
         go_wp2_with (go_at_call 39;refine(HAt.o _ hS.bl).mono ?_;rintro e w6 ⟨rfl,hb6⟩)
         have hS6:=hS.step hb6
         refine hK.out _ _ (fun _=>hS6) ?_
         clear hK hS
         have hS:=hS6
         clear hS6
         clear hb6
         refine aj (i:=7) (n:=9) (.tuple #[.agg #[.string x0,.bool x1,.string x2,.string x3,.bool x4,.string x5,.bool x6,.string x7],.nilIface]) rfl rfl (by kernel_rfl) (by kernel_rfl) (by kernel_rfl) (by kernel_rfl) (fun _ _ _ h=>h) rfl (fun w' hS'=>?_) hS ?_
         ·clear hS' hS
          go_simp<;>with_reducible rfl
         simp only[Act.put,aH,aG,aI]
         refine aj (i:=8) (n:=17) (.agg #[.string x0,.bool x1,.string x2,.string x3,.bool x4,.string x5,.bool x6,.string x7]) rfl rfl (by kernel_rfl) (by kernel_rfl) (by kernel_rfl) (by kernel_rfl) (fun _ _ _ h=>h) rfl (fun w' hS'=>?_) hS ?_
         ·clear hS' hS
          go_simp<;>with_reducible rfl
         simp only[Act.put,aH,aG,aI]
         refine aj (i:=9) (n:=18) (.nilIface) rfl rfl (by kernel_rfl) (by kernel_rfl) (by kernel_rfl) (by kernel_rfl) (fun _ _ _ h=>h) rfl (fun w' hS'=>?_) hS ?_
         ·clear hS' hS
          go_simp<;>with_reducible rfl
         simp only[Act.put,aH,aG,aI]
         refine ai (i:=10) (by kernel_rfl) rfl (fun K' hK=>?_)
         rw[if_pos (by rfl)]
         go_wp2
         refine hK.out _ _ (fun _=>hS.step (ag.alloc af _)) ?_
         clear hK
         obtain⟨W1,bA,eW,eb,hA,hAl,hS⟩:=hS.new
         rw[eW,eb]
         clear eW eb
         refine bH (listed':=#[true,true,true,true,true,true,true,true,true,true,true,false,false]) (by kernel_rfl) ?_
         revert hS;revert hAl;revert hA;revert bA;revert W1
         exact T.o
        ·rw[if_pos (by rfl)]
         go_wp2
         refine hK.out _ _ (fun _=>hS.step (ag.alloc af _)) ?_
         clear hK
         obtain⟨W1,bA,eW,eb,hA,hAl,hS⟩:=hS.new
         rw[eW,eb]
         clear eW eb
         refine ai (i:=6) (by kernel_rfl) rfl (fun K' hK=>?_)
         rw[if_pos (by rfl)]
         go_wp2_with (go_at_call 39;refine(HAt.o _ hS.bl).mono ?_;rintro e w6 ⟨rfl,hb6⟩)
         have hS6:=hS.step hb6
         refine hK.out _ _ (fun _=>hS6) ?_
         clear hK hS
         have hS:=hS6
         clear hS6
         replace hA:=az hb6 hA
         clear hb6
         refine aj (i:=7) (n:=9) (.tuple #[.agg #[.string x0,.bool x1,.string x2,.string x3,.bool x4,.string x5,.bool x6,.string x7],.nilIface]) rfl rfl (by kernel_rfl) (by kernel_rfl) (by kernel_rfl) (by kernel_rfl) (fun _ _ _ h=>h) rfl (fun w' hS'=>?_) hS ?_
         ·clear hS' hS
          go_simp<;>with_reducible rfl
         simp only[Act.put,aH,aG,aI]
         refine aj (i:=8) (n:=17) (.agg #[.string x0,.bool x1,.string x2,.string x3,.bool x4,.string x5,.bool x6,.string x7]) rfl rfl (by kernel_rfl) (by kernel_rfl) (by kernel_rfl) (by kernel_rfl) (fun _ _ _ h=>h) rfl (fun w' hS'=>?_) hS ?_
         ·clear hS' hS
          go_simp<;>with_reducible rfl
         simp only[Act.put,aH,aG,aI]
         refine aj (i:=9) (n:=18) (.nilIface) rfl rfl (by kernel_rfl) (by kernel_rfl) (by kernel_rfl) (by kernel_rfl) (fun _ _ _ h=>h) rfl (fun w' hS'=>?_) hS ?_
         ·clear hS' hS
          go_simp<;>with_reducible rfl
         simp only[Act.put,aH,aG,aI]
         refine bH (listed':=#[true,true,true,true,true,true,true,true,true,true,true,false,false]) (by kernel_rfl) ?_
         revert hS;revert hAl;revert hA;revert bA;revert w6
         exact T.o
       ·rw[if_pos (by rfl)]
        go_wp2
        refine hK.out _ _ (fun _=>hS.step (ag.alloc af _)) ?_
        clear hK
        obtain⟨W1,bA,eW,eb,hA,hAl,hS⟩:=hS.new
        rw[eW,eb]
        clear eW eb
        refine ai (i:=5) (by kernel_rfl) rfl (fun K' hK=>?_)
        rw[if_pos (by rfl)]
        go_wp2_with (go_at_call 40;refine(HNm.o _ hS.bl).mono ?_;rintro e w5 ⟨he,hb5⟩;obtain rfl:e=.returned (.int .i64 i):=he)
        have hS5:=hS.step hb5
        refine hK.out _ _ (fun _=>hS5) ?_
        clear hK hS
        have hS:=hS5
        clear hS5
        replace hA:=az hb5 hA
        clear hb5
        refine ai (i:=6) (by kernel_rfl) rfl (fun K' hK=>?_)
        rw[if_pos (by rfl)]
        go_wp2_with (go_at_call 39;refine(HAt.o _ hS.bl).mono ?_;rintro e w6 ⟨rfl,hb6⟩)
        have hS6:=hS.step hb6
        refine hK.out _ _ (fun _=>hS6) ?_
        clear hK hS
        have hS:=hS6
        clear hS6
        replace hA:=az hb6 hA
        clear hb6
        refine aj (i:=7) (n:=9) (.tuple #[.agg #[.string x0,.bool x1,.string x2,.string x3,.bool x4,.string x5,.bool x6,.string x7],.nilIface]) rfl rfl (by kernel_rfl) (by kernel_rfl) (by kernel_rfl) (by kernel_rfl) (fun _ _ _ h=>h) rfl (fun w' hS'=>?_) hS ?_
        ·clear hS' hS
         go_simp<;>with_reducible rfl
        simp only[Act.put,aH,aG,aI]
        refine aj (i:=8) (n:=17) (.agg #[.string x0,.bool x1,.string x2,.string x3,.bool x4,.string x5,.bool x6,.string x7]) rfl rfl (by kernel_rfl) (by kernel_rfl) (by kernel_rfl) (by kernel_rfl) (fun _ _ _ h=>h) rfl (fun w' hS'=>?_) hS ?_
        ·clear hS' hS
         go_simp<;>with_reducible rfl
        simp only[Act.put,aH,aG,aI]
        refine aj (i:=9) (n:=18) (.nilIface) rfl rfl (by kernel_rfl) (by kernel_rfl) (by kernel_rfl) (by kernel_rfl) (fun _ _ _ h=>h) rfl (fun w' hS'=>?_) hS ?_
        ·clear hS' hS
         go_simp<;>with_reducible rfl
        simp only[Act.put,aH,aG,aI]
        refine bH (listed':=#[true,true,true,true,true,true,true,true,true,true,true,false,false]) (by kernel_rfl) ?_
        revert hS;revert hAl;revert hA;revert bA;revert w6
        exact T.o
      ·rw[if_pos (by rfl)]
       go_wp2
       refine hK.out _ _ (fun _=>hS.step (ag.alloc af _)) ?_
       clear hK
       obtain⟨W1,bA,eW,eb,hA,hAl,hS⟩:=hS.new
       rw[eW,eb]
       clear eW eb
       refine ai (i:=1) (by kernel_rfl) rfl (fun K' hK=>?_)
       rw[if_pos (by rfl)]
       go_wp2_with (go_at_call 38;refine(HDd.o _ hS.bl).mono ?_;rintro e w5 ⟨rfl,hw5⟩;obtain rfl:=hw5.symm)
       refine hK.out _ _ (fun _=>hS) ?_
       clear hK
       refine ai (i:=5) (by kernel_rfl) rfl (fun K' hK=>?_)
       rw[if_pos (by rfl)]
       go_wp2_with (go_at_call 40;refine(HNm.o _ hS.bl).mono ?_;rintro e w5 ⟨he,hb5⟩;obtain rfl:e=.returned (.int .i64 i):=he)
       have hS5:=hS.step hb5
       refine hK.out _ _ (fun _=>hS5) ?_
       clear hK hS
       have hS:=hS5
       clear hS5
       replace hA:=az hb5 hA
       clear hb5
       refine ai (i:=6) (by kernel_rfl) rfl (fun K' hK=>?_)
       rw[if_pos (by rfl)]
       go_wp2_with (go_at_call 39;refine(HAt.o _ hS.bl).mono ?_;rintro e w6 ⟨rfl,hb6⟩)
       have hS6:=hS.step hb6
       refine hK.out _ _ (fun _=>hS6) ?_
       clear hK hS
       have hS:=hS6
       clear hS6
       replace hA:=az hb6 hA
       clear hb6
       refine aj (i:=7) (n:=9) (.tuple #[.agg #[.string x0,.bool x1,.string x2,.string x3,.bool x4,.string x5,.bool x6,.string x7],.nilIface]) rfl rfl (by kernel_rfl) (by kernel_rfl) (by kernel_rfl) (by kernel_rfl) (fun _ _ _ h=>h) rfl (fun w' hS'=>?_) hS ?_
       ·clear hS' hS
        go_simp<;>with_reducible rfl
       simp only[Act.put,aH,aG,aI]
       refine aj (i:=8) (n:=17) (.agg #[.string x0,.bool x1,.string x2,.string x3,.bool x4,.string x5,.bool x6,.string x7]) rfl rfl (by kernel_rfl) (by kernel_rfl) (by kernel_rfl) (by kernel_rfl) (fun _ _ _ h=>h) rfl (fun w' hS'=>?_) hS ?_
       ·clear hS' hS
        go_simp<;>with_reducible rfl
       simp only[Act.put,aH,aG,aI]
       refine aj (i:=9) (n:=18) (.nilIface) rfl rfl (by kernel_rfl) (by kernel_rfl) (by kernel_rfl) (by kernel_rfl) (fun _ _ _ h=>h) rfl (fun w' hS'=>?_) hS ?_
       ·clear hS' hS
        go_simp<;>with_reducible rfl
       simp only[Act.put,aH,aG,aI]
       refine bH (listed':=#[true,true,true,true,true,true,true,true,true,true,true,false,false]) (by kernel_rfl) ?_
       revert hS;revert hAl;revert hA;revert bA;revert w6
       exact T.o
     case t=>
      intro W bA hA hAl hS
      obtain⟨y0,y1,y2,y3,y4,y5,y6,y7,yf⟩:=dU hA
      have hg9:=kR hA (.string x0) (.bool x1) (.string x2) (.string x3) (.bool x4) (.string x5) (.bool x6) (.string x7)
      have hb9:=iW hS.bl hAl (.string x0) (.bool x1) (.string x2) (.string x3) (.bool x4) (.string x5) (.bool x6) (.string x7)
      refine ai (i:=11) (by kernel_rfl) rfl (fun K' hK=>?_)
      rw[if_pos (by rfl)]
      clear hS
      go_wp2
      refine hK.out _ _ (fun _=>WSt.of HC0.o hb9) ?_
      clear hK y0 y1 y2 y3 y4 y5 y6 y7 yf hA
      refine ai (i:=12) (by kernel_rfl) rfl (fun K' hK=>?_)
      rw[if_pos (by rfl)]
      go_wp2
      refine hK.out _ _ (fun h=>absurd rfl h) ?_
      clear hK
      refine ja (by kernel_rfl) ?_ _
      go_wp2_with fail
      refine(iw _).mono ?_
      rintro e w7 ⟨rfl,hw7⟩
      obtain rfl:=hw7.symm
      obtain⟨r0,r1,r2,r3,r4,r5,r6,r7,-⟩:=dU hg9
      go_wp2_with fail
      refine(HWr.o _).mono ?_
      rintro e w7 ⟨rfl,hb7⟩
      clear r0 r1 r2 r3 r4 r5 r6 r7 hg9
      go_wp2
      go_ret
      exact⟨by rw[HR2.o];exact⟨_,rfl,by rw[ByteArray.data_append,Array.toList_append,HWl.o];rfl⟩,hb9.trans (hb7.mono hb9.size)⟩
    ·have HR2:Box (R=.error 2):=⟨by
      rw[HR3.o]
      have:fE bb i=none:=by
       unfold fE
       split
       ·rw[List.getElem?_eq_none (by rw[hps,Xu];omega)]
       ·rfl
      show atO (fE bb i)=_
      rw[this]
      rfl⟩
     have HAt:Box (∀w',Below w.heap.size w w'->Calls prog 39 #[.pointer (some ⟨g,0,none⟩),.int .i64 i] w' fun e w''=>e=.returned (.tuple #[zAV.val,.iface 25 (.int .i64 2)])/\Below w'.heap.size w' w''):=⟨fun w' hb'=>ZF (HB.o.below hb') i hin⟩
     generalize hz:zAV=av at HAt
     obtain⟨x0,x1,x2,x3,x4,x5,x6,x7⟩:=av
     clear HR3 hps hz hin
     revert hS;revert wD
     apply via
     case tree=>
      intro T wD hS
      refine bq (i:=1) (j:=10) (by kernel_rfl) rfl rfl (fun K' hK=>?_) (fun K' hK=>?_)
      ·rw[if_pos (by rfl)]
       go_wp2_with (go_at_call 38;refine(HDd.o _ hS.bl).mono ?_;rintro e w5 ⟨rfl,hw5⟩;obtain rfl:=hw5.symm)
       refine hK.out _ _ (fun _=>hS) ?_
       clear hK
       refine bq (i:=5) (j:=10) (by kernel_rfl) rfl rfl (fun K' hK=>?_) (fun K' hK=>?_)
       ·rw[if_pos (by rfl)]
        go_wp2_with (go_at_call 40;refine(HNm.o _ hS.bl).mono ?_;rintro e w5 ⟨he,hb5⟩;obtain rfl:e=.returned (.int .i64 i):=he)
        have hS5:=hS.step hb5
        refine hK.out _ _ (fun _=>hS5) ?_
        clear hK hS
        have hS:=hS5
        clear hS5
        clear hb5
        refine bq (i:=6) (j:=10) (by kernel_rfl) rfl rfl (fun K' hK=>?_) (fun K' hK=>?_)
        ·rw[if_pos (by rfl)]
         go_wp2_with (go_at_call 39;refine(HAt.o _ hS.bl).mono ?_;rintro e w6 ⟨rfl,hb6⟩)
         have hS6:=hS.step hb6
         refine hK.out _ _ (fun _=>hS6) ?_
         clear hK hS
         have hS:=hS6
         clear hS6
         clear hb6
         refine aj (i:=7) (n:=9) (.tuple #[.agg #[.string x0,.bool x1,.string x2,.string x3,.bool x4,.string x5,.bool x6,.string x7],.iface 25 (.int .i64 2)]) rfl rfl (by kernel_rfl) (by kernel_rfl) (by kernel_rfl) (by kernel_rfl) (fun _ _ _ h=>h) rfl (fun w' hS'=>?_) hS ?_
         ·clear hS' hS
          go_simp<;>with_reducible rfl
         simp only[Act.put,aH,aG,aI]
         refine aj (i:=8) (n:=17) (.agg #[.string x0,.bool x1,.string x2,.string x3,.bool x4,.string x5,.bool x6,.string x7]) rfl rfl (by kernel_rfl) (by kernel_rfl) (by kernel_rfl) (by kernel_rfl) (fun _ _ _ h=>h) rfl (fun w' hS'=>?_) hS ?_
         ·clear hS' hS
          go_simp<;>with_reducible rfl
         simp only[Act.put,aH,aG,aI]
         refine aj (i:=9) (n:=18) (.iface 25 (.int .i64 2)) rfl rfl (by kernel_rfl) (by kernel_rfl) (by kernel_rfl) (by kernel_rfl) (fun _ _ _ h=>h) rfl (fun w' hS'=>?_) hS ?_
         ·clear hS' hS
          go_simp<;>with_reducible rfl
         simp only[Act.put,aH,aG,aI]
         refine ai (i:=10) (by kernel_rfl) rfl (fun K' hK=>?_)
         rw[if_pos (by rfl)]
         go_wp2
         refine hK.out _ _ (fun _=>hS.step (ag.alloc af _)) ?_
         clear hK
         obtain⟨W1,bA,eW,eb,hA,hAl,hS⟩:=hS.new
         rw[eW,eb]
         clear eW eb
         refine bH (listed':=#[true,true,true,true,true,true,true,true,true,true,true,false,false]) (by kernel_rfl) ?_
         revert hS;revert hAl;revert hA;revert bA;revert W1
         exact T.o
        ·rw[if_pos (by rfl)]
         go_wp2
         refine hK.out _ _ (fun _=>hS.step (ag.alloc af _)) ?_
         clear hK
         obtain⟨W1,bA,eW,eb,hA,hAl,hS⟩:=hS.new
         rw[eW,eb]
         clear eW eb
         refine ai (i:=6) (by kernel_rfl) rfl (fun K' hK=>?_)
         rw[if_pos (by rfl)]
         go_wp2_with (go_at_call 39;refine(HAt.o _ hS.bl).mono ?_;rintro e w6 ⟨rfl,hb6⟩)
         have hS6:=hS.step hb6
         refine hK.out _ _ (fun _=>hS6) ?_
         clear hK hS
         have hS:=hS6
         clear hS6
         replace hA:=az hb6 hA
         clear hb6
         refine aj (i:=7) (n:=9) (.tuple #[.agg #[.string x0,.bool x1,.string x2,.string x3,.bool x4,.string x5,.bool x6,.string x7],.iface 25 (.int .i64 2)]) rfl rfl (by kernel_rfl) (by kernel_rfl) (by kernel_rfl) (by kernel_rfl) (fun _ _ _ h=>h) rfl (fun w' hS'=>?_) hS ?_
         ·clear hS' hS
          go_simp<;>with_reducible rfl
         simp only[Act.put,aH,aG,aI]
         refine aj (i:=8) (n:=17) (.agg #[.string x0,.bool x1,.string x2,.string x3,.bool x4,.string x5,.bool x6,.string x7]) rfl rfl (by kernel_rfl) (by kernel_rfl) (by kernel_rfl) (by kernel_rfl) (fun _ _ _ h=>h) rfl (fun w' hS'=>?_) hS ?_
         ·clear hS' hS
          go_simp<;>with_reducible rfl
         simp only[Act.put,aH,aG,aI]
         refine aj (i:=9) (n:=18) (.iface 25 (.int .i64 2)) rfl rfl (by kernel_rfl) (by kernel_rfl) (by kernel_rfl) (by kernel_rfl) (fun _ _ _ h=>h) rfl (fun w' hS'=>?_) hS ?_
         ·clear hS' hS
          go_simp<;>with_reducible rfl
         simp only[Act.put,aH,aG,aI]
         refine bH (listed':=#[true,true,true,true,true,true,true,true,true,true,true,false,false]) (by kernel_rfl) ?_
         revert hS;revert hAl;revert hA;revert bA;revert w6
         exact T.o
       ·rw[if_pos (by rfl)]
        go_wp2
        refine hK.out _ _ (fun _=>hS.step (ag.alloc af _)) ?_
        clear hK
        obtain⟨W1,bA,eW,eb,hA,hAl,hS⟩:=hS.new
        rw[eW,eb]
        clear eW eb
        refine ai (i:=5) (by kernel_rfl) rfl (fun K' hK=>?_)
        rw[if_pos (by rfl)]
        go_wp2_with (go_at_call 40;refine(HNm.o _ hS.bl).mono ?_;rintro e w5 ⟨he,hb5⟩;obtain rfl:e=.returned (.int .i64 i):=he)
        have hS5:=hS.step hb5
        refine hK.out _ _ (fun _=>hS5) ?_
        clear hK hS
        have hS:=hS5
        clear hS5
        replace hA:=az hb5 hA
        clear hb5
        refine ai (i:=6) (by kernel_rfl) rfl (fun K' hK=>?_)
        rw[if_pos (by rfl)]
        go_wp2_with (go_at_call 39;refine(HAt.o _ hS.bl).mono ?_;rintro e w6 ⟨rfl,hb6⟩)
        have hS6:=hS.step hb6
        refine hK.out _ _ (fun _=>hS6) ?_
        clear hK hS
        have hS:=hS6
        clear hS6
        replace hA:=az hb6 hA
        clear hb6
        refine aj (i:=7) (n:=9) (.tuple #[.agg #[.string x0,.bool x1,.string x2,.string x3,.bool x4,.string x5,.bool x6,.string x7],.iface 25 (.int .i64 2)]) rfl rfl (by kernel_rfl) (by kernel_rfl) (by kernel_rfl) (by kernel_rfl) (fun _ _ _ h=>h) rfl (fun w' hS'=>?_) hS ?_
        ·clear hS' hS
         go_simp<;>with_reducible rfl
        simp only[Act.put,aH,aG,aI]
        refine aj (i:=8) (n:=17) (.agg #[.string x0,.bool x1,.string x2,.string x3,.bool x4,.string x5,.bool x6,.string x7]) rfl rfl (by kernel_rfl) (by kernel_rfl) (by kernel_rfl) (by kernel_rfl) (fun _ _ _ h=>h) rfl (fun w' hS'=>?_) hS ?_
        ·clear hS' hS
         go_simp<;>with_reducible rfl
        simp only[Act.put,aH,aG,aI]
        refine aj (i:=9) (n:=18) (.iface 25 (.int .i64 2)) rfl rfl (by kernel_rfl) (by kernel_rfl) (by kernel_rfl) (by kernel_rfl) (fun _ _ _ h=>h) rfl (fun w' hS'=>?_) hS ?_
        ·clear hS' hS
         go_simp<;>with_reducible rfl
        simp only[Act.put,aH,aG,aI]
        refine bH (listed':=#[true,true,true,true,true,true,true,true,true,true,true,false,false]) (by kernel_rfl) ?_
        revert hS;revert hAl;revert hA;revert bA;revert w6
        exact T.o
      ·rw[if_pos (by rfl)]
       go_wp2
       refine hK.out _ _ (fun _=>hS.step (ag.alloc af _)) ?_
       clear hK
       obtain⟨W1,bA,eW,eb,hA,hAl,hS⟩:=hS.new
       rw[eW,eb]
       clear eW eb
       refine ai (i:=1) (by kernel_rfl) rfl (fun K' hK=>?_)
       rw[if_pos (by rfl)]
       go_wp2_with (go_at_call 38;refine(HDd.o _ hS.bl).mono ?_;rintro e w5 ⟨rfl,hw5⟩;obtain rfl:=hw5.symm)
       refine hK.out _ _ (fun _=>hS) ?_
       clear hK
       refine ai (i:=5) (by kernel_rfl) rfl (fun K' hK=>?_)
       rw[if_pos (by rfl)]
       go_wp2_with (go_at_call 40;refine(HNm.o _ hS.bl).mono ?_;rintro e w5 ⟨he,hb5⟩;obtain rfl:e=.returned (.int .i64 i):=he)
       have hS5:=hS.step hb5
       refine hK.out _ _ (fun _=>hS5) ?_
       clear hK hS
       have hS:=hS5
       clear hS5
       replace hA:=az hb5 hA
       clear hb5
       refine ai (i:=6) (by kernel_rfl) rfl (fun K' hK=>?_)
       rw[if_pos (by rfl)]
       go_wp2_with (go_at_call 39;refine(HAt.o _ hS.bl).mono ?_;rintro e w6 ⟨rfl,hb6⟩)
       have hS6:=hS.step hb6
       refine hK.out _ _ (fun _=>hS6) ?_
       clear hK hS
       have hS:=hS6
       clear hS6
       replace hA:=az hb6 hA
       clear hb6
       refine aj (i:=7) (n:=9) (.tuple #[.agg #[.string x0,.bool x1,.string x2,.string x3,.bool x4,.string x5,.bool x6,.string x7],.iface 25 (.int .i64 2)]) rfl rfl (by kernel_rfl) (by kernel_rfl) (by kernel_rfl) (by kernel_rfl) (fun _ _ _ h=>h) rfl (fun w' hS'=>?_) hS ?_
       ·clear hS' hS
        go_simp<;>with_reducible rfl
       simp only[Act.put,aH,aG,aI]
       refine aj (i:=8) (n:=17) (.agg #[.string x0,.bool x1,.string x2,.string x3,.bool x4,.string x5,.bool x6,.string x7]) rfl rfl (by kernel_rfl) (by kernel_rfl) (by kernel_rfl) (by kernel_rfl) (fun _ _ _ h=>h) rfl (fun w' hS'=>?_) hS ?_
       ·clear hS' hS
        go_simp<;>with_reducible rfl
       simp only[Act.put,aH,aG,aI]
       refine aj (i:=9) (n:=18) (.iface 25 (.int .i64 2)) rfl rfl (by kernel_rfl) (by kernel_rfl) (by kernel_rfl) (by kernel_rfl) (fun _ _ _ h=>h) rfl (fun w' hS'=>?_) hS ?_
       ·clear hS' hS
        go_simp<;>with_reducible rfl
       simp only[Act.put,aH,aG,aI]
       refine bH (listed':=#[true,true,true,true,true,true,true,true,true,true,true,false,false]) (by kernel_rfl) ?_
       revert hS;revert hAl;revert hA;revert bA;revert w6
       exact T.o
     case t=>
      intro W bA hA hAl hS
      obtain⟨y0,y1,y2,y3,y4,y5,y6,y7,yf⟩:=dU hA
      have hg9:=kR hA (.string x0) (.bool x1) (.string x2) (.string x3) (.bool x4) (.string x5) (.bool x6) (.string x7)
      have hb9:=iW hS.bl hAl (.string x0) (.bool x1) (.string x2) (.string x3) (.bool x4) (.string x5) (.bool x6) (.string x7)
      refine ai (i:=11) (by kernel_rfl) rfl (fun K' hK=>?_)
      rw[if_pos (by rfl)]
      clear hS
      go_wp2
      refine hK.out _ _ (fun _=>WSt.of HC0.o hb9) ?_
      clear hK y0 y1 y2 y3 y4 y5 y6 y7 yf hA
      refine ai (i:=12) (by kernel_rfl) rfl (fun K' hK=>?_)
      rw[if_pos (by rfl)]
      go_wp2
      refine hK.out _ _ (fun h=>absurd rfl h) ?_
      clear hK
      refine ja (by kernel_rfl) ?_ _
      have HEt:=Box.m (HE.o.below (hb9.mono (aac hdl))).gl.et
      go_wp2_with fail
      refine(jh 2 _ HEt.o).mono ?_
      rintro e w7 ⟨rfl,hb7⟩
      go_wp2
      exact⟨rfl,by rw[HR2.o];rfl,hb9.trans (hb7.mono hb9.size)⟩
 ·have hn:atS σ (tls xs)=.error 3:=xw (by rw[di];exact h1) _
  rw[hn]
  obtain⟨A,cap,rfl,-⟩:=hX
  have HN:=Box.m (kD A xs.length cap 1 w h1)
  clear hl hE hn h1 h
  go_enter func13,ntmps13
  go_wp2_with fail
  refine HN.o.mono ?_
  rintro e w1 ⟨rfl,hw1⟩
  obtain rfl:=hw1.symm
  go_wp2
  exact⟨rfl,rfl,Below.refl _ _⟩
end Go.Proofs.YtkldkhdigkpniaaGreatDoor
