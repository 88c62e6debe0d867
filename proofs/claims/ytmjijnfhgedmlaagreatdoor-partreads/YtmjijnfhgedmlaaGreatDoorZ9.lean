import Derived.Test.YtmjijnfhgedmlaaGreatDoorZ8
import Derived.Test.YtmjijnfhgedmlaaGreatDoorZ1
import Derived.Test.YtmjijnfhgedmlaaGreatDoorZ3
import Derived.Test.YtmjijnfhgedmlaaGreatDoorZShelfJ
import Derived.Deep.LoopGhost
import Derived.Maps.AppendAt
namespace Go.Proofs.YtmjijnfhgedmlaaGreatDoor
open Go.RowKit Go.Extern.Stop Go.Stop Go.Extern

theorem typeOfA (v : Value) (w : World) : (ReflectliteType.typeOf #[.iface 124 v]).run Tryz.prog w = .ok (.iface 220 (.agg #[.pointer (some ⟨9, 124, none⟩)])) w := by kernel_rfl
theorem assignableA (w : World) : (ReflectliteType.relation "AssignableTo" ReflectliteType.assignableTo #[.agg #[.pointer (some ⟨9, 124, none⟩)], .iface 220 (.agg #[.pointer (some ⟨9, 22, none⟩)])]).run Tryz.prog w = .ok (.bool false) w := by kernel_rfl
theorem noAs (v : Value) (xT : TypeId) (w : World) : (Instr.typeAssert (.iface 124 v) xT 225 true).run Tryz.prog w = .ok (.tuple #[.nilIface, .bool false]) w :=
  run_typeAssert_lacksB Tryz.underlying225 (by kernel_rfl) (by kernel_rfl) v xT w
theorem hasUnwrap (v : Value) (xT : TypeId) (w : World) : (Instr.typeAssert (.iface 124 v) xT 127 true).run Tryz.prog w = .ok (.tuple #[.iface 124 v, .bool true]) w := by kernel_rfl
theorem isAt (p : Option Addr) (w : World) : (Instr.typeAssert (.iface 124 (.pointer p)) 26 124 true).run Tryz.prog w = .ok (.tuple #[.pointer p, .bool true]) w := by kernel_rfl
theorem methodUnwrap (h : Value) (w : World) : (Go.method 378 124 h "Unwrap").run Tryz.prog w = .ok (234, h) w := by kernel_rfl

set_option maxHeartbeats 4000000 in
theorem as_at (n : Int) (b : Nat) (t : Addr) (old : Value) (w : World) (hb0 : w.cell? ⟨b, 0, none⟩ = some (.int .i64 n)) (hg0 : ErrT w) (ht0 : w.cell? t = some old) (hf0 : w.frozen? t = false) :
    Calls Tryz.prog 127 #[.iface 124 (.pointer (some ⟨b, 0, none⟩)), .iface 160 (.pointer (some t))] w fun ev w' => ev = .returned (.bool true) ∧ w' = ((((w.alloc (.cells #[.pointer (some t)] 160)).alloc (.cells #[.pointer (some ⟨9, 160, none⟩), .pointer (some ⟨w.heap.size, 0, none⟩), .int .u64 150] 189)).alloc (.cells #[.pointer (some ⟨9, 160, none⟩), .pointer (some ⟨w.heap.size, 0, none⟩), .int .u64 150] 189)).alloc (.cells #[.int .i64 n] 22)).setCell t (.int .i64 n) := by
  have hg : w.cell? ⟨2, 0, none⟩ = some (.iface 220 (.agg #[.pointer (some ⟨9, 26, none⟩)])) := hg0
  have hlt := hg0.lt
  have h6 := @run_callFunc_extern Tryz.prog 166 _ (fun args => ReflectliteValue.unpack (args.getD 0 (.tuple #[]))) Tryz.func166 (by kernel_rfl) (by kernel_rfl) (by kernel_rfl) (by kernel_rfl)
  have h7 := @run_callFunc_extern Tryz.prog 167 _ (ReflectliteValue.methodAny (ReflectliteValue.valueError "reflectlite.Value.Type" 0) (fun t _ _ _ => ReflectliteType.toType t)) Tryz.func167 (by kernel_rfl) (by kernel_rfl) (by kernel_rfl) (by kernel_rfl)
  have h8 := @run_callFunc_extern Tryz.prog 168 _ (ReflectliteValue.method (ReflectliteValue.valueError "reflectlite.Value.IsNil" 0) ReflectliteValue.isNil) Tryz.func168 (by kernel_rfl) (by kernel_rfl) (by kernel_rfl) (by kernel_rfl)
  have h27 := @run_callFunc_extern Tryz.prog 229 _ (ReflectliteType.abiMethod fun t => do pure (.int .u8 (← Rtype.kind t))) Tryz.func229 (by kernel_rfl) (by kernel_rfl) (by kernel_rfl) (by kernel_rfl)
  have h37 := @run_callFunc_extern Tryz.prog 242 _ (ReflectliteType.method ReflectliteType.elem) Tryz.func242 (by kernel_rfl) (by kernel_rfl) (by kernel_rfl) (by kernel_rfl)
  have h38 := @run_callFunc_extern Tryz.prog 243 _ (ReflectliteType.relation "Implements" ReflectliteType.implements_) Tryz.func243 (by kernel_rfl) (by kernel_rfl) (by kernel_rfl) (by kernel_rfl)
  have h10 := @run_callFunc_extern Tryz.prog 197 _ ReflectliteType.typeOf Tryz.func197 (by kernel_rfl) (by kernel_rfl) (by kernel_rfl) (by kernel_rfl)
  have h35 := @run_callFunc_extern Tryz.prog 240 _ (ReflectliteType.relation "AssignableTo" ReflectliteType.assignableTo) Tryz.func240 (by kernel_rfl) (by kernel_rfl) (by kernel_rfl) (by kernel_rfl)
  have h11 := @run_callFunc_extern Tryz.prog 198 _ (ReflectliteValue.method (ReflectliteValue.valueError "reflectlite.Value.Elem" 0) ReflectliteValue.elem) Tryz.func198 (by kernel_rfl) (by kernel_rfl) (by kernel_rfl) (by kernel_rfl)
  have h12 := @run_callFunc_extern Tryz.prog 199 _ ReflectliteValue.set Tryz.func199 (by kernel_rfl) (by kernel_rfl) (by kernel_rfl) (by kernel_rfl)
  have tO := typeOfE
  have mA := methodAssignableTo
  have a25 := assignableE
  have v25 := valueOfE
  have f6 := valueOfP
  have f7 := typeP
  have mK := methodKind
  have mE := methodElem
  have mI := methodImplements
  have k27 := kindP
  have k25 := kindE
  have e27 := elemP
  have i25 := implementsE
  have n8 := isNilP ⟨w.heap.size, 0, none⟩ t ((w.alloc (.cells #[.pointer (some t)] 160)).alloc (.cells #[.pointer (some ⟨9, 160, none⟩), .pointer (some ⟨w.heap.size, 0, none⟩), .int .u64 150] 189)) (by simp)
  have hg2 : ((w.alloc (.cells #[.pointer (some t)] 160)).alloc (.cells #[.pointer (some ⟨9, 160, none⟩), .pointer (some ⟨w.heap.size, 0, none⟩), .int .u64 150] 189)).cell? ⟨2, 0, none⟩ = some (.iface 220 (.agg #[.pointer (some ⟨9, 26, none⟩)])) := by
    rw [World.cell?_alloc_lt _ _ ⟨2, 0, none⟩ (by simp; omega), World.cell?_alloc_lt _ _ ⟨2, 0, none⟩ hlt]; exact hg
  have htl : t.block < w.heap.size := World.block_lt_of_cell? w _ ht0
  have el := elemVP ⟨w.heap.size, 0, none⟩ t (((w.alloc (.cells #[.pointer (some t)] 160)).alloc (.cells #[.pointer (some ⟨9, 160, none⟩), .pointer (some ⟨w.heap.size, 0, none⟩), .int .u64 150] 189)).alloc (.cells #[.pointer (some ⟨9, 160, none⟩), .pointer (some ⟨w.heap.size, 0, none⟩), .int .u64 150] 189)) (by rw [World.cell?_alloc_lt _ _ ⟨w.heap.size, 0, none⟩ (by simp; omega)]; simp)
  have st := setE t ⟨w.heap.size + 1 + 1 + 1, 0, none⟩ n old ((((w.alloc (.cells #[.pointer (some t)] 160)).alloc (.cells #[.pointer (some ⟨9, 160, none⟩), .pointer (some ⟨w.heap.size, 0, none⟩), .int .u64 150] 189)).alloc (.cells #[.pointer (some ⟨9, 160, none⟩), .pointer (some ⟨w.heap.size, 0, none⟩), .int .u64 150] 189)).alloc (.cells #[.int .i64 n] 22))
    (by rw [World.cell?_alloc_at _ _ _ _ (by simp)]; rfl)
    (by rw [World.cell?_alloc_lt _ _ t (by simp; omega), World.cell?_alloc_lt _ _ t (by simp; omega), World.cell?_alloc_lt _ _ t (by simp; omega), World.cell?_alloc_lt _ _ t htl]; exact ht0)
    (by rw [World.frozen?_alloc_old _ _ t (by simp; omega), World.frozen?_alloc_old _ _ t (by simp; omega), World.frozen?_alloc_old _ _ t (by simp; omega), World.frozen?_alloc_old _ _ t (Nat.ne_of_lt htl)]; exact hf0)
  have hbl : b < w.heap.size := World.block_lt_of_cell? w _ hb0
  have hb3 : (((w.alloc (.cells #[.pointer (some t)] 160)).alloc (.cells #[.pointer (some ⟨9, 160, none⟩), .pointer (some ⟨w.heap.size, 0, none⟩), .int .u64 150] 189)).alloc (.cells #[.pointer (some ⟨9, 160, none⟩), .pointer (some ⟨w.heap.size, 0, none⟩), .int .u64 150] 189)).cell? ⟨b, 0, none⟩ = some (.int .i64 n) := by
    rw [World.cell?_alloc_lt _ _ ⟨b, 0, none⟩ (by simp; omega), World.cell?_alloc_lt _ _ ⟨b, 0, none⟩ (by simp; omega), World.cell?_alloc_lt _ _ ⟨b, 0, none⟩ hbl]; exact hb0
  have tA := typeOfA
  have aA := assignableA
  have nA := noAs
  have hU := hasUnwrap
  have mU := methodUnwrap
  clear hg0
  go_enter Tryz.func127, Tryz.ntmps127
  go_wp2
  refine wp_loop_rounds 2 ?_
  rw [rounds_succ]
  go_wp2
  rw [rounds_succ]
  go_wp2
  go_ret
  exact ⟨rfl, rfl⟩


set_option maxHeartbeats 1000000 in
theorem tell_at (n : Int) (b : Nat) (w : World) (hb0 : w.cell? ⟨b, 0, none⟩ = some (.int .i64 n)) (hg : ErrT w) : Calls Tryz.prog 79 #[.iface 124 (.pointer (some ⟨b, 0, none⟩))] w fun e w' => e = .returned (.int .i64 n) ∧ Below w.heap.size w w' := by
  have hgA : ErrT (w.alloc (.cells #[.int .i64 0] 22)) := hg.below ((Below.refl w.heap.size w).alloc (Nat.le_refl _) _) hg.lt
  have htA : (w.alloc (.cells #[.int .i64 0] 22)).cell? ⟨w.heap.size, 0, none⟩ = some (.int .i64 0) := by simp
  have hfA : (w.alloc (.cells #[.int .i64 0] 22)).frozen? ⟨w.heap.size, 0, none⟩ = false := by simp
  have hbA : (w.alloc (.cells #[.int .i64 0] 22)).cell? ⟨b, 0, none⟩ = some (.int .i64 n) := (World.cell?_alloc_lt _ _ ⟨b, 0, none⟩ (World.block_lt_of_cell? w _ hb0)).trans hb0
  go_enter Tryz.func79, Tryz.ntmps79
  go_wp2_with (go_at_call 127; refine (as_at n b _ (.int .i64 0) _ hbA hgA htA hfA).mono ?_; rintro e w' ⟨rfl, rfl⟩)
  go_ret
  refine ⟨rfl, ?_⟩
  exact (((((Below.refl _ _).alloc (Nat.le_refl _) _).alloc (by simp) _).alloc (by simp; omega) _).alloc (by simp; omega) _).alloc (by simp; omega) _

set_option maxHeartbeats 1000000 in
set_option maxRecDepth 100000 in
theorem place_at (n p : Int) (b : Nat) (w : World) (hb0 : w.cell? ⟨b, 0, none⟩ = some (.int .i64 n)) (hb1 : w.cell? ⟨b, 1, none⟩ = some (.int .i64 p)) (hg : ErrT w) : Calls Tryz.prog 43 #[.iface 124 (.pointer (some ⟨b, 0, none⟩))] w fun e w' => e = .returned (.tuple #[.int .i64 n, .int .i64 p]) ∧ Below w.heap.size w w' := by
  have q2 := isAt
  have hbl : b < w.heap.size := World.block_lt_of_cell? w _ hb0
  go_enter Tryz.func43, Tryz.ntmps43
  go_wp2_with fail
  refine (tell_at n b _ hb0 hg).mono ?_
  rintro e w1 ⟨rfl, hb⟩
  have c1 : w1.cell? ⟨b, 1, none⟩ = some (.int .i64 p) := (hb.cell (p := ⟨b, 1, none⟩) hbl).trans hb1
  clear hb0 hb1
  go_wp2
  refine wp_loop_rounds 1 ?_
  rw [rounds_succ]
  go_wp2
  go_region
  go_wp2
  go_ret2
  exact ⟨rfl, hb.drew⟩

set_option maxHeartbeats 1000000 in
theorem is_at (n p : Int) (b : Nat) (w : World) (hb0 : w.cell? ⟨b, 0, none⟩ = some (.int .i64 n)) (hb1 : w.cell? ⟨b, 1, none⟩ = some (.int .i64 p)) (hg : ErrT w) : Calls Tryz.prog 25 #[.iface 124 (.pointer (some ⟨b, 0, none⟩)), .agg #[.int .i64 n, .int .i64 p]] w fun e w' => e = .returned (.bool true) ∧ Below w.heap.size w w' := by
  have hgA : ErrT (w.alloc (.cells #[.int .i64 n, .int .i64 p] 55)) := hg.below ((Below.refl w.heap.size w).alloc (Nat.le_refl _) _) hg.lt
  have hbl : b < w.heap.size := World.block_lt_of_cell? w _ hb0
  have hbA0 : (w.alloc (.cells #[.int .i64 n, .int .i64 p] 55)).cell? ⟨b, 0, none⟩ = some (.int .i64 n) := (World.cell?_alloc_lt _ _ ⟨b, 0, none⟩ hbl).trans hb0
  have hbA1 : (w.alloc (.cells #[.int .i64 n, .int .i64 p] 55)).cell? ⟨b, 1, none⟩ = some (.int .i64 p) := (World.cell?_alloc_lt _ _ ⟨b, 1, none⟩ hbl).trans hb1
  clear hb0 hb1
  go_enter Tryz.func25, Tryz.ntmps25
  go_wp2_with fail
  refine (place_at n p b _ hbA0 hbA1 hgA).mono ?_
  rintro e w' ⟨rfl, hb⟩
  clear hbA0 hbA1
  have c0 : w'.cell? ⟨w.heap.size, 0, none⟩ = some (.int .i64 n) := (hb.cell (p := ⟨w.heap.size, 0, none⟩) (by simp)).trans (by simp)
  have c1 : w'.cell? ⟨w.heap.size, 1, none⟩ = some (.int .i64 p) := (hb.cell (p := ⟨w.heap.size, 1, none⟩) (by simp)).trans (by simp)
  go_wp2
  go_ret
  exact ⟨rfl, ((Below.refl _ _).alloc (Nat.le_refl _) _).trans (hb.mono (by simp))⟩

end Go.Proofs.YtmjijnfhgedmlaaGreatDoor

namespace Go.Proofs.YtmjijnfhgedmlaaGreatDoor
open Go.RowKit

/- The reference's reader: what is left, and whether all was well. -/
def RS (w : World) (b : Nat) (s : ByteArray) (ok : Bool) : Prop := w.heap[b]? = some (.cells #[.string s, .bool ok] 153 (0, 0))

theorem RS.cells {w : World} {b : Nat} {s : ByteArray} {ok : Bool} (h : RS w b s ok) : w.cell? ⟨b, 0, none⟩ = some (.string s) ∧ w.cell? ⟨b, 1, none⟩ = some (.bool ok) ∧ w.frozen? ⟨b, 0, none⟩ = false ∧ w.frozen? ⟨b, 1, none⟩ = false ∧ b < w.heap.size := by
  have h' : w.heap[b]? = _ := h
  refine ⟨by simp [World.cell?, h'], by simp [World.cell?, h'], by simp [World.frozen?, h'], by simp [World.frozen?, h'], (Array.getElem?_eq_some_iff.1 h').1⟩
theorem RS.setS {w : World} {b : Nat} {s : ByteArray} {ok : Bool} (h : RS w b s ok) (t : ByteArray) : RS (w.setCell ⟨b, 0, none⟩ (.string t)) b t ok := by
  unfold RS
  rw [setCell_eq_setRow w b 0 _ _ _ _ h]
  exact setRow_heap w b _ _ _ _ h
theorem RS.setO {w : World} {b : Nat} {s : ByteArray} {ok : Bool} (h : RS w b s ok) (q : Bool) : RS (w.setCell ⟨b, 1, none⟩ (.bool q)) b s q := by
  unfold RS
  rw [setCell_eq_setRow w b 1 _ _ _ _ h]
  exact setRow_heap w b _ _ _ _ h
theorem RS.below {w w' : World} {b C : Nat} {s : ByteArray} {ok : Bool} (h : RS w b s ok) (hb : Below C w w') (hC : b < C) : RS w' b s ok := (hb.block b hC).trans h
theorem grown_set (w : World) (b k : Nat) (v : Value) : w.grownBy (w.setCell ⟨b, k, none⟩ v) (some b) :=
  ⟨rfl, rfl, rfl, by simp, fun k' _ hk => heap_setCell_other w ⟨b, k, none⟩ k' v (fun e => hk (by rw [e]))⟩
theorem grown_of {w w' : World} (h : Below w.heap.size w w') (row : Option Nat) : w.grownBy w' row := ⟨h.os, h.tape, h.output, h.size, fun i hi _ => h.block i hi⟩
theorem grown_refl (w : World) (row : Option Nat) : w.grownBy w row := ⟨rfl, rfl, rfl, Nat.le_refl _, fun _ _ _ => rfl⟩

theorem cons_get (s : ByteArray) (c : UInt8) (r : List UInt8) (h : s.data.toList = c :: r) : ∃ h0 : 0 < s.size, s[0] = c ∧ (s.extract 1 s.size).data.toList = r := by
  have h0 : 0 < s.size := by rw [← size_list, h]; simp
  have := head_split s h0
  rw [h] at this
  injection this with e1 e2
  exact ⟨h0, e1.symm, e2.symm⟩

set_option maxHeartbeats 800000 in
theorem take_yes (b : Nat) (s : ByteArray) (ok : Bool) (c : UInt8) (r : List UInt8) (w : World) (h : RS w b s ok) (hs : s.data.toList = c :: r) :
    Calls Tryz.prog 111 #[.pointer (some ⟨b, 0, none⟩), .int .u8 (c.toNat : Int)] w fun e w' => e = .returned (.bool true) ∧ ∃ t, RS w' b t ok ∧ t.data.toList = r ∧ w.grownBy w' (some b) := by
  obtain ⟨h0, h1, h2⟩ := cons_get s c r hs
  obtain ⟨c0, c1, f0, f1, hb⟩ := h.cells
  have he := nonempty_of s (by omega)
  have hx : ((s[0].toNat : Int) != (c.toNat : Int)) = false := by rw [u8bne, h1]; simp
  have HR := Box.mk (h.setS (s.extract 1 s.size))
  have H2 := Box.mk h2
  clear h2 hs
  go_enter Tryz.func111, Tryz.ntmps111
  go_wp2
  go_ret
  exact ⟨rfl, _, HR.out, H2.out, grown_set _ _ _ _⟩

set_option maxHeartbeats 800000 in
theorem take_no (b : Nat) (s : ByteArray) (ok : Bool) (c : UInt8) (w : World) (h : RS w b s ok) (hs : s.data.toList.head? ≠ some c) :
    Calls Tryz.prog 111 #[.pointer (some ⟨b, 0, none⟩), .int .u8 (c.toNat : Int)] w fun e w' => e = .returned (.bool false) ∧ w' = w := by
  obtain ⟨c0, c1, f0, f1, hb⟩ := h.cells
  by_cases h0 : s.size = 0
  · have he := empty_of s h0
    go_enter Tryz.func111, Tryz.ntmps111
    go_wp2
    go_ret
    exact ⟨rfl, rfl⟩
  · have he := nonempty_of s h0
    have hp : 0 < s.size := by omega
    have hx : ((s[0].toNat : Int) != (c.toNat : Int)) = true := by
      rw [u8bne]
      have e := head_split s hp
      rw [e] at hs
      simpa using hs
    clear hs
    go_enter Tryz.func111, Tryz.ntmps111
    go_wp2
    go_ret
    exact ⟨rfl, rfl⟩

set_option maxHeartbeats 800000 in
theorem blanks_any (b : Nat) (s : ByteArray) (ok : Bool) (w : World) (h : RS w b s ok) :
    Calls Tryz.prog 112 #[.pointer (some ⟨b, 0, none⟩)] w fun e w' => e = .returned (.tuple #[]) ∧ ∃ t, RS w' b t ok ∧ t.data.toList = dropB s.data.toList ∧ w.grownBy w' (some b) := by
  go_enter Tryz.func112, Tryz.ntmps112
  go_wp2
  go_loopg [] s.size (fun gf wx => ∃ t : ByteArray, RS wx b t ok ∧ Box (dropB t.data.toList = dropB s.data.toList) ∧ w.grownBy wx (some b) ∧ t.size ≤ gf)
  case atStart => exact ⟨s, h, ⟨rfl⟩, grown_refl _ _, Nat.le_refl _⟩
  case round =>
    obtain ⟨t, hr, HT, hg, hgf⟩ := hrel
    obtain ⟨c0, c1, f0, f1, hb⟩ := hr.cells
    by_cases hgo : ∃ h : 0 < t.size, blk t[0] = true
    · obtain ⟨hp, hbl⟩ := hgo
      have he := nonempty_of t (by omega)
      have HT' : Box (dropB (t.extract 1 t.size).data.toList = dropB s.data.toList) := ⟨by rw [← HT.out, head_split t hp, dropB_cons _ _ hbl]⟩
      have hsz : (t.extract 1 t.size).size = t.size - 1 := by simp [ByteArray.size_extract]
      have HR := Box.mk (hr.setS (t.extract 1 t.size))
      clear HT
      go_wp2_with (go_at_call 94; refine (rBlank_any _ _).mono ?_; rintro e w' ⟨rfl, rfl⟩)
      go_roundg (t.size - 1)
      case measure => omega
      case rel => exact ⟨_, HR.out, HT', hg.trans (grown_set _ _ _ _), by omega⟩
    · have HD : Box (t.data.toList = dropB s.data.toList) := ⟨by
        rw [← HT.out]
        symm
        apply dropB_self
        by_cases h0 : t.size = 0
        · exact head_none t h0
        · exact head_one t (by omega) (by
            cases hb : blk t[0]
            · rfl
            · exact absurd ⟨by omega, hb⟩ hgo)⟩
      have hx : t.toList.isEmpty = true ∨ ∃ h : 0 < t.size, (t.toList.isEmpty = false ∧ blk t[0] = false) := by
        by_cases h0 : t.size = 0
        · exact .inl (empty_of t h0)
        · refine .inr ⟨by omega, nonempty_of t h0, ?_⟩
          cases hb : blk t[0]
          · rfl
          · exact absurd ⟨by omega, hb⟩ hgo
      clear hgo HT
      rcases hx with he | ⟨hp, he, hbl⟩
      all_goals
        go_wp2_with (go_at_call 94; refine (rBlank_any _ _).mono ?_; rintro e w' ⟨rfl, rfl⟩)
        go_end0
        exact ⟨rfl, _, hr, HD.out, hg⟩

theorem special_index (c : UInt8) : decide (0 ≤ Lib.indexByte specials c) = specials.contains c := by
  have key : ∀ n : Fin 256, decide (0 ≤ Lib.indexByte specials (UInt8.ofNat n.val)) = specials.contains (UInt8.ofNat n.val) := by decide +kernel
  have := key ⟨c.toNat, c.toNat_lt⟩
  simpa using this
theorem tokC_yes (c : UInt8) (h : tokC c = true) : 33 ≤ (c.toNat : Int) ∧ (c.toNat : Int) ≤ 126 ∧ Lib.indexByte specials c < 0 := by
  simp only [tokC, Bool.and_eq_true, decide_eq_true_eq, Bool.not_eq_true'] at h
  refine ⟨by omega, by omega, ?_⟩
  have := special_index c
  rw [h.2] at this
  have := of_decide_eq_false this
  omega
theorem tokC_no (c : UInt8) (h : tokC c = false) : (c.toNat : Int) < 33 ∨ (33 ≤ (c.toNat : Int) ∧ 126 < (c.toNat : Int)) ∨ (33 ≤ (c.toNat : Int) ∧ (c.toNat : Int) ≤ 126 ∧ 0 ≤ Lib.indexByte specials c) := by
  by_cases h1 : (c.toNat : Int) < 33
  · exact .inl h1
  · by_cases h2 : 126 < (c.toNat : Int)
    · exact .inr (.inl ⟨by omega, h2⟩)
    · refine .inr (.inr ⟨by omega, by omega, ?_⟩)
      have e := special_index c
      unfold tokC at h
      rw [decide_eq_true (by omega : 33 ≤ c.toNat), decide_eq_true (by omega : c.toNat ≤ 126)] at h
      have h' : specials.contains c = true := by simpa using h
      rw [h'] at e
      exact of_decide_eq_true e

theorem tokS_false (l : List UInt8) (h : l.all tokC = false) : tokS l = false := by unfold tokS; rw [h, Bool.and_false]
theorem tokS_end (s : ByteArray) (h : s.data.toList.all tokC = true) : tokS s.data.toList = !(s.toList.isEmpty) := by unfold tokS; rw [h, Bool.and_true, ByteArray.toList_eq]
theorem u8_back (c : UInt8) : ((c.toNat : Int).toNat.toUInt8) = c := by simp
theorem index_spec (s : ByteArray) (k : Nat) (h : k < s.size) (w : World) (z : Int) (hz : Lib.indexByte specials s[k] = z) : Calls Tryz.prog 42 #[.string ⟨#[40, 41, 60, 62, 64, 44, 59, 58, 92, 34, 47, 91, 93, 63, 61]⟩, .int .u8 (s[k].toNat : Int)] w fun e w' => e = .returned (.int .i64 z) ∧ w' = w := by
  refine (Tryz.strings_IndexByte _ _ w).mono ?_
  rintro e w' ⟨rfl, rfl⟩
  rw [u8_back, ← hz]
  exact ⟨rfl, rfl⟩

set_option maxHeartbeats 1600000 in
set_option maxRecDepth 100000 in
theorem rToken_any (s : ByteArray) (w : World) (hl : s.size ≤ 1000000) :
    Calls Tryz.prog 115 #[.string s] w fun e w' => e = .returned (.bool (tokS s.data.toList)) ∧ w' = w := by
  go_enter Tryz.func115, Tryz.ntmps115
  go_wp2
  go_loop [6] (fun i => ∃ k : Nat, k ≤ s.size ∧ i = .int .i64 k ∧ Box ((s.data.toList.take k).all tokC = true)) (fun i => s.size - (intOf i).toNat)
  case atStart => exact ⟨0, Nat.zero_le _, rfl, ⟨rfl⟩⟩
  case round =>
    obtain ⟨k, hk, rfl, HA⟩ := hrel
    by_cases hlt : k < s.size
    · have hbyte : (s[k].toNat : Int) < 256 := by have := s[k].toNat_lt; omega
      obtain ⟨z, HZ⟩ : ∃ z, Box (Lib.indexByte specials s[k] = z) := ⟨_, ⟨rfl⟩⟩
      cases hc : tokC s[k]
      · have HF : Box (tokS s.data.toList = false) := ⟨tokS_false _ (all_stop s k hlt hc)⟩
        have hx := tokC_no _ hc
        rw [HZ.out] at hx
        clear hc HA
        rcases hx with x1 | ⟨x1, x2⟩ | ⟨x1, x2, x3⟩
        · go_wp2_with (go_at_call 29; refine (in_no _ _ _ _ (fun h => by omega)).mono ?_; rintro e w' ⟨rfl, rfl⟩)
          go_ret
          exact ⟨ret_bool HF.out.symm, rfl⟩
        · go_wp2_with (go_at_call 29; refine (in_no _ _ _ _ (fun h => by omega)).mono ?_; rintro e w' ⟨rfl, rfl⟩)
          go_ret
          exact ⟨ret_bool HF.out.symm, rfl⟩
        · go_wp2_with (first | (go_at_call 29; refine (in_yes _ _ _ _ x1 x2).mono ?_; rintro e w' ⟨rfl, rfl⟩) | (go_at_call 42; refine (index_spec s k hlt _ z HZ.out).mono ?_; rintro e w' ⟨rfl, rfl⟩))
          go_ret
          exact ⟨ret_bool HF.out.symm, rfl⟩
      · have HA' : Box ((s.data.toList.take (k + 1)).all tokC = true) := ⟨all_on s k hlt HA.out hc⟩
        have hx := tokC_yes _ hc
        rw [HZ.out] at hx
        obtain ⟨x1, x2, x3⟩ := hx
        clear hc HA
        go_wp2_with (first | (go_at_call 29; refine (in_yes _ _ _ _ x1 x2).mono ?_; rintro e w' ⟨rfl, rfl⟩) | (go_at_call 42; refine (index_spec s k hlt _ z HZ.out).mono ?_; rintro e w' ⟨rfl, rfl⟩))
        go_round
        case rel => exact ⟨k + 1, by omega, by go_num, HA'⟩
        case measure => simp [intOf]; omega
    · have HF : Box (tokS s.data.toList = !(s.toList.isEmpty)) := ⟨tokS_end s (by rw [← take_all s k hlt]; exact HA.out)⟩
      clear HA
      go_wp2
      go_ret
      exact ⟨ret_bool HF.out.symm, rfl⟩

end Go.Proofs.YtmjijnfhgedmlaaGreatDoor

namespace Go.Proofs.YtmjijnfhgedmlaaGreatDoor
open Go.RowKit

theorem extract_one (s : ByteArray) (k : Nat) (h : k < s.size) : (s.extract k (k + 1)).data.toList = [s[k]] := by
  rw [extract_list, List.drop_eq_getElem_cons (by rw [size_list]; exact h)]
  simp
  rfl
theorem token1 (s : ByteArray) (k : Nat) (h : k < s.size) (q : Bool) (hq : tokC s[k] = q) (w : World) :
    Calls Tryz.prog 115 #[.string (s.extract k (k + 1))] w fun e w' => e = .returned (.bool q) ∧ w' = w := by
  refine (rToken_any _ w (by rw [← size_list, extract_one s k h]; simp)).mono ?_
  rintro e w' ⟨rfl, rfl⟩
  refine ⟨ret_bool ?_, rfl⟩
  rw [extract_one s k h, ← hq]
  simp [tokS]
theorem while_stop {p : UInt8 → Bool} (s : ByteArray) (k : Nat) (h : (s.data.toList.take k).all p = true) (hs : ∀ hk : k < s.size, p s[k] = false) : s.data.toList.takeWhile p = s.data.toList.take k ∧ s.data.toList.dropWhile p = s.data.toList.drop k := by
  have e : s.data.toList.take k ++ s.data.toList.drop k = s.data.toList := List.take_append_drop _ _
  have := takeWhile_app (p := p) (s.data.toList.take k) (s.data.toList.drop k) (List.all_eq_true.1 h) (by
    rw [List.head?_drop]
    by_cases hk : k < s.size
    · rw [getL s k hk]; simp [hs hk]
    · rw [List.getElem?_eq_none (by rw [size_list]; omega)]; rfl)
  rw [e] at this
  exact this

def TPost (T U : List UInt8) (b : Nat) (ok : Bool) (w : World) (e : Ending) (w' : World) : Prop :=
  ∃ t u, e = .returned (.string t) ∧ t.data.toList = T ∧ RS w' b u (ok && !T.isEmpty) ∧ u.data.toList = U ∧ w.grownBy w' (some b)
set_option maxHeartbeats 1600000 in
set_option maxRecDepth 100000 in
theorem rtoken_any (b : Nat) (s : ByteArray) (ok : Bool) (w : World) (h : RS w b s ok) (hl : s.size ≤ 1000000) :
    Calls Tryz.prog 113 #[.pointer (some ⟨b, 0, none⟩)] w fun e w' => TPost (s.data.toList.takeWhile tokC) (s.data.toList.dropWhile tokC) b ok w e w' := by
  obtain ⟨T, HT⟩ : ∃ T, Box (T = s.data.toList.takeWhile tokC) := ⟨_, ⟨rfl⟩⟩
  obtain ⟨U, HU⟩ : ∃ U, Box (U = s.data.toList.dropWhile tokC) := ⟨_, ⟨rfl⟩⟩
  rw [← HT.out, ← HU.out]
  obtain ⟨c0, c1, f0, f1, hb⟩ := h.cells
  have HR := Box.mk h
  clear h
  go_enter Tryz.func113, Tryz.ntmps113
  go_wp2
  go_loop [3] (fun i => ∃ k : Nat, k ≤ s.size ∧ i = .int .i64 k ∧ Box ((s.data.toList.take k).all tokC = true)) (fun i => s.size - (intOf i).toNat)
  case atStart => exact ⟨0, Nat.zero_le _, rfl, ⟨rfl⟩⟩
  case round =>
    obtain ⟨k, hk, rfl, HA⟩ := hrel
    by_cases hgo : ∃ h : k < s.size, tokC s[k] = true
    · obtain ⟨hlt, hc⟩ := hgo
      have HA' : Box ((s.data.toList.take (k + 1)).all tokC = true) := ⟨all_on s k hlt HA.out hc⟩
      have HC := Box.mk hc
      clear HA HT HU hc
      go_wp2_with (go_at_call 115; refine (token1 s k hlt _ HC.out _).mono ?_; rintro e w' ⟨rfl, rfl⟩)
      go_round
      case rel => exact ⟨k + 1, by omega, by go_num, HA'⟩
      case measure => simp [intOf]; omega
    · have hst : ∀ hk : k < s.size, tokC s[k] = false := fun hk => by
        cases hc : tokC s[k]
        · rfl
        · exact absurd ⟨hk, hc⟩ hgo
      obtain ⟨e1, e2⟩ := while_stop s k HA.out hst
      have HT' : Box ((s.extract 0 k).data.toList = T) := ⟨by rw [HT.out, e1, extract_list]; simp⟩
      have HU' : Box ((s.extract k s.size).data.toList = U) := ⟨by rw [HU.out, e2, extract_list, List.take_of_length_le (by rw [List.length_drop, size_list]; exact Nat.le_refl _)]⟩
      have HE : Box (T.isEmpty = decide (k = 0)) := ⟨by
        rw [HT.out, e1, Bool.eq_iff_iff, List.isEmpty_iff, decide_eq_true_iff]
        constructor
        · intro h
          have := congrArg List.length h
          rw [List.length_take, size_list, List.length_nil] at this
          omega
        · rintro rfl; rfl⟩
      clear HT HU e1 e2 HA hgo
      have HS := Box.mk (fun q => (HR.out.setO q).setS (s.extract k s.size))
      have HG : Box (∀ q : Bool, w.grownBy ((w.setCell ⟨b, 1, none⟩ (.bool q)).setCell ⟨b, 0, none⟩ (.string (s.extract k s.size))) (some b)) := ⟨fun q => (grown_set _ _ _ _).trans (grown_set _ _ _ _)⟩
      clear HR
      have HD : Box ((true && !decide (k = 0)) = decide (0 < k)) := ⟨by rw [Bool.true_and, Bool.eq_iff_iff]; simp; omega⟩
      by_cases hlt : k < s.size
      · have HC : Box (tokC s[k] = false) := ⟨hst hlt⟩
        clear hst
        cases ok
        · go_wp2_with (go_at_call 115; refine (token1 s k hlt _ HC.out _).mono ?_; rintro e w' ⟨rfl, rfl⟩)
          go_ret
          refine ⟨_, _, rfl, HT'.out, ?_, HU'.out, HG.out false⟩
          rw [Bool.false_and]
          exact HS.out false
        · go_wp2_with (go_at_call 115; refine (token1 s k hlt _ HC.out _).mono ?_; rintro e w' ⟨rfl, rfl⟩)
          go_ret
          refine ⟨_, _, rfl, HT'.out, ?_, HU'.out, HG.out (decide (0 < k))⟩
          rw [HE.out, HD.out]
          exact HS.out (decide (0 < k))
      · clear hst
        cases ok
        · go_wp2
          go_ret
          refine ⟨_, _, rfl, HT'.out, ?_, HU'.out, HG.out false⟩
          rw [Bool.false_and]
          exact HS.out false
        · go_wp2
          go_ret
          refine ⟨_, _, rfl, HT'.out, ?_, HU'.out, HG.out (decide (0 < k))⟩
          rw [HE.out, HD.out]
          exact HS.out (decide (0 < k))

/- What stands in quotes. -/
theorem quoted_nil : quotedS [] = none := by unfold quotedS; rfl
theorem quoted_end (r : List UInt8) : quotedS (34 :: r) = some ([], r) := by unfold quotedS; rw [if_pos rfl]
theorem quoted_esc1 (d : UInt8) (r : List UInt8) : quotedS (92 :: d :: r) = if inC d then (quotedS r).map fun q => (d :: q.1, q.2) else none := by
  conv => lhs; unfold quotedS
  rw [if_neg (by decide), if_pos rfl]
theorem quoted_esc0 : quotedS [92] = none := by
  unfold quotedS
  rw [if_neg (by decide), if_pos rfl]
theorem quoted_on (c : UInt8) (r : List UInt8) (h1 : c ≠ 34) (h2 : c ≠ 92) : quotedS (c :: r) = if inC c then (quotedS r).map fun q => (c :: q.1, q.2) else none := by
  conv => lhs; unfold quotedS
  rw [if_neg h1, if_neg h2]
theorem quoted_one (c : UInt8) (h1 : c ≠ 34) : quotedS [c] = none := by
  by_cases h2 : c = 92
  · rw [h2]; exact quoted_esc0
  · rw [quoted_on c [] h1 h2, quoted_nil]
    split <;> rfl
theorem map_map_q (Q : Option (List UInt8 × List UInt8)) (o : List UInt8) (d : UInt8) : (Q.map fun q => (d :: q.1, q.2)).map (fun q => (o ++ q.1, q.2)) = Q.map fun q => (o ++ [d] ++ q.1, q.2) := by
  cases Q with
  | none => rfl
  | some q => simp

def QPost (Q : Option (List UInt8 × List UInt8)) (b : Nat) (ok : Bool) (e : Ending) (w' : World) : Prop :=
  match Q with
  | some q => ∃ t u, e = .returned (.string t) ∧ t.data.toList = q.1 ∧ RS w' b u ok ∧ u.data.toList = q.2
  | none => e = .returned (.string ⟨#[]⟩) ∧ ∃ u, RS w' b u false ∧ u.size ≤ 1000000

theorem inC_yes (c : UInt8) (h : inC c = true) : 32 ≤ (c.toNat : Int) ∧ (c.toNat : Int) ≤ 126 := by
  simp only [inC, Bool.and_eq_true, decide_eq_true_eq] at h
  exact ⟨by omega, by omega⟩
theorem inC_no (c : UInt8) (h : inC c = false) : ¬ (32 ≤ (c.toNat : Int) ∧ (c.toNat : Int) ≤ 126) := by
  rintro ⟨h1, h2⟩
  rw [inC, decide_eq_true (by omega), decide_eq_true (by omega)] at h
  cases h

end Go.Proofs.YtmjijnfhgedmlaaGreatDoor

namespace Go.Proofs.YtmjijnfhgedmlaaGreatDoor
open Go.RowKit

/- A rune may not stand. -/
def wrongR (least : Nat) (others : List UInt8) (x : Nat) : Bool := decide (x < least) || decide (126 < x) || decide (0 ≤ Lib.indexByte others x.toUInt8)
/-- The bytes that may stand. -/
def fineC (least : Nat) (others : List UInt8) (c : UInt8) : Bool := !wrongR least others c.toNat

theorem decodeN_low (n b0 b1 b2 b3 : Nat) (h : b0 < 128) : Lib.decodeN n b0 b1 b2 b3 = (b0, 1) := by simp [Lib.decodeN, h]
theorem decodeN_high (n b0 b1 b2 b3 : Nat) (h : ¬ b0 < 128) : 128 ≤ (Lib.decodeN n b0 b1 b2 b3).1 := by
  unfold Lib.decodeN
  rw [if_neg h]
  repeat' split
  all_goals simp only
  all_goals omega
theorem get_bang (s : ByteArray) (k : Nat) (h : k < s.size) : s.get! k = s[k] := by
  have hk : k < s.data.size := h
  show s.data[k]! = _
  rw [getElem!_pos s.data k hk]; rfl
theorem decode_low (s : ByteArray) (k : Nat) (h : k < s.size) (hc : s[k].toNat < 128) : Utf8.decode s k = (s[k].toNat, 1) := by
  rw [Lib.decode_at, decodeN_low _ _ _ _ _ (by rw [get_bang s k h]; exact hc), get_bang s k h]
theorem decode_high (s : ByteArray) (k : Nat) (h : k < s.size) (hc : ¬ s[k].toNat < 128) : 128 ≤ (Utf8.decode s k).1 := by
  rw [Lib.decode_at]
  exact decodeN_high _ _ _ _ _ (by rw [get_bang s k h]; exact hc)
theorem idx_from (least : Nat) (others : List UInt8) (s : ByteArray) : ∀ f k : Nat, s.size ≤ k + f → k ≤ s.size → (s.data.toList.take k).all (fineC least others) = true →
    Lib.idxFuncFrom (wrongR least others) true s f k = if (s.data.toList.takeWhile (fineC least others)).length = s.size then -1 else ((s.data.toList.takeWhile (fineC least others)).length : Int) := by
  intro f
  induction f with
  | zero =>
    intro k hf hk ha
    have hks : ¬ k < s.size := by omega
    obtain ⟨e1, _⟩ := while_stop s k ha (fun h => absurd h hks)
    rw [Lib.idxFuncFrom_end _ _ _ _ _ hks, e1, List.length_take, size_list, if_pos (by omega)]
  | succ f ih =>
    intro k hf hk ha
    by_cases hks : k < s.size
    · by_cases hw : fineC least others s[k] = true
      · have hlow : s[k].toNat < 128 := by
          unfold fineC wrongR at hw
          simp only [Bool.not_eq_true', Bool.or_eq_false_iff, decide_eq_false_iff_not] at hw
          omega
        have hp : wrongR least others s[k].toNat = false := by unfold fineC at hw; simpa using hw
        unfold Lib.idxFuncFrom
        rw [if_pos hks, decode_low s k hks hlow]
        simp only
        rw [if_neg (by rw [hp]; decide)]
        exact ih (k + 1) (by omega) (by omega) (all_on s k hks ha hw)
      · have hw' : fineC least others s[k] = false := by simpa using hw
        have hp : wrongR least others (Utf8.decode s k).1 = true := by
          by_cases hlow : s[k].toNat < 128
          · rw [decode_low s k hks hlow]
            unfold fineC at hw'
            simpa using hw'
          · have := decode_high s k hks hlow
            unfold wrongR
            rw [decide_eq_true (show 126 < (Utf8.decode s k).1 by omega)]
            simp
        obtain ⟨e1, _⟩ := while_stop s k ha (fun _ => hw')
        unfold Lib.idxFuncFrom
        rw [if_pos hks, if_pos hp, e1, List.length_take, size_list, if_neg (by omega)]
        omega
    · obtain ⟨e1, _⟩ := while_stop s k ha (fun h => absurd h hks)
      rw [Lib.idxFuncFrom_end _ _ _ _ _ hks, e1, List.length_take, size_list, if_pos (by omega)]
theorem idx_fine (least : Nat) (others : List UInt8) (s : ByteArray) : Lib.idxFunc (wrongR least others) true s = if (s.data.toList.takeWhile (fineC least others)).length = s.size then -1 else ((s.data.toList.takeWhile (fineC least others)).length : Int) :=
  idx_from least others s s.size 0 (by omega) (Nat.zero_le _) rfl

theorem wrong_calls (args : Array Value) (w : World) : (callFunc 212 args).run Tryz.prog w = .ok (.enter 212 args) w := by simp [go_sem]

set_option maxHeartbeats 1600000 in
set_option maxRecDepth 100000 in
theorem wrong1_any (b1 b2 : Nat) (least : Nat) (others : ByteArray) (x : Nat) (w : World) (hx : x ≤ 1114111) (c1 : w.cell? ⟨b1, 0, none⟩ = some (.int .i32 (least : Int))) (c2 : w.cell? ⟨b2, 0, none⟩ = some (.string others)) :
    Calls Tryz.prog 212 #[.int .i32 (x : Int), .pointer (some ⟨b1, 0, none⟩), .pointer (some ⟨b2, 0, none⟩)] w fun e w' => e = .returned (.bool (wrongR least others.data.toList x)) ∧ w' = w := by
  obtain ⟨R, HR⟩ : ∃ R, Box (R = wrongR least others.data.toList x) := ⟨_, ⟨rfl⟩⟩
  rw [← HR.out]
  by_cases h1 : x < least
  · have z1 : (x : Int) < (least : Int) := by omega
    have HR' : Box (R = true) := ⟨by rw [HR.out, wrongR, decide_eq_true h1]; rfl⟩
    clear HR
    go_enter Tryz.func212, Tryz.ntmps212
    go_wp2
    go_ret
    exact ⟨ret_bool HR'.out.symm, rfl⟩
  · have z1 : ¬ (x : Int) < (least : Int) := by omega
    by_cases h2 : 126 < x
    · have z2 : (126 : Int) < (x : Int) := by omega
      have HR' : Box (R = true) := ⟨by rw [HR.out, wrongR, decide_eq_true h2]; simp⟩
      clear HR
      go_enter Tryz.func212, Tryz.ntmps212
      go_wp2
      go_ret
      exact ⟨ret_bool HR'.out.symm, rfl⟩
    · have z2 : ¬ (126 : Int) < (x : Int) := by omega
      have HR' : Box (R = decide (0 ≤ Lib.indexByte others.data.toList x.toUInt8)) := ⟨by rw [HR.out, wrongR, decide_eq_false h1, decide_eq_false h2]; rfl⟩
      have hc := Tryz.strings_ContainsRune_ascii others (x : Int) w (by omega) (by omega)
      rw [Int.toNat_natCast, ← HR'.out] at hc
      clear HR HR'
      go_enter Tryz.func212, Tryz.ntmps212
      go_wp2_with (go_at_call 93; refine hc.mono ?_; rintro e w' ⟨rfl, rfl⟩)
      go_ret
      exact ⟨rfl, rfl⟩

theorem pred_wrong (b1 b2 least : Nat) (others : ByteArray) (w : World) (h1 : b1 < w.heap.size) (h2 : b2 < w.heap.size) (c1 : w.cell? ⟨b1, 0, none⟩ = some (.int .i32 (least : Int))) (c2 : w.cell? ⟨b2, 0, none⟩ = some (.string others)) :
    PredGrows Tryz.prog 212 #[.pointer (some ⟨b1, 0, none⟩), .pointer (some ⟨b2, 0, none⟩)] (wrongR least others.data.toList) w := by
  intro W x hx hb
  refine (wrong1_any b1 b2 least others x W hx ((hb.cell (p := ⟨b1, 0, none⟩) h1).trans c1) ((hb.cell (p := ⟨b2, 0, none⟩) h2).trans c2)).mono ?_
  rintro e w' ⟨rfl, rfl⟩
  exact ⟨rfl, Below.refl _ _⟩

set_option maxHeartbeats 400000 in
theorem wrong_any (least : Nat) (others : ByteArray) (w : World) :
    Calls Tryz.prog 203 #[.int .i32 (least : Int), .string others] w fun e w' => e = .returned (.func (.func 212) #[] #[.pointer (some ⟨w.heap.size, 0, none⟩), .pointer (some ⟨w.heap.size + 1, 0, none⟩)]) ∧ w' = (w.alloc (.cells #[.int .i32 (least : Int)] 21)).alloc (.cells #[.string others] 9) := by
  go_enter Tryz.func203, Tryz.ntmps203
  go_wp2
  go_ret
  exact ⟨rfl, rfl⟩

set_option maxHeartbeats 400000 in
theorem idxf_any (g : Nat) (lb : Array Value) (eg : ∀ args w, (callFunc g args).run Tryz.prog w = .ok (.enter g args) w) (p : Nat → Bool) (s : ByteArray) (w : World) (hp : PredGrows Tryz.prog g lb p w) :
    Calls Tryz.prog 194 #[.string s, .func (.func g) #[] lb] w fun e w' => e = .returned (.int .i64 (Lib.idxFunc p true s)) ∧ Below w.heap.size w w' := by
  have hc := Tryz.strings_indexFunc g lb eg p true s w hp
  go_enter Tryz.func194, Tryz.ntmps194
  go_wp2_with (go_at_call 211; refine hc.mono ?_; rintro e w' ⟨rfl, hb⟩)
  go_ret
  exact ⟨rfl, hb⟩

theorem two_cells (w : World) (o1 o2 : Obj) (v1 v2 : Value) (t1 t2 : TypeId) (h1 : o1 = .cells #[v1] t1 (0, 0)) (h2 : o2 = .cells #[v2] t2 (0, 0)) : ((w.alloc o1).alloc o2).cell? ⟨w.heap.size, 0, none⟩ = some v1 ∧ ((w.alloc o1).alloc o2).cell? ⟨w.heap.size + 1, 0, none⟩ = some v2 := by
  subst h1
  subst h2
  constructor
  · simp only [World.cell?]
    rw [Below.heap_alloc _ _ _ (by simp), heap_alloc_new]
    rfl
  · simp only [World.cell?]
    have e : w.heap.size + 1 = (w.alloc (.cells #[v1] t1 (0, 0))).heap.size := by simp
    rw [e, heap_alloc_new]
    rfl
/-- 'strings.IndexFunc(s, wrong(least, others))', by its two calls. -/
theorem find_any (least : Nat) (others s : ByteArray) (w : World) (z : Int) (hz : z = if (s.data.toList.takeWhile (fineC least others.data.toList)).length = s.size then -1 else ((s.data.toList.takeWhile (fineC least others.data.toList)).length : Int)) :
    Calls Tryz.prog 194 #[.string s, .func (.func 212) #[] #[.pointer (some ⟨w.heap.size, 0, none⟩), .pointer (some ⟨w.heap.size + 1, 0, none⟩)]] ((w.alloc (.cells #[.int .i32 (least : Int)] 21)).alloc (.cells #[.string others] 9)) fun e w' => e = .returned (.int .i64 z) ∧ Below w.heap.size w w' := by
  refine (idxf_any 212 _ wrong_calls (wrongR least others.data.toList) s _ (pred_wrong _ _ least others _ (by simp; omega) (by simp) (two_cells w _ _ _ _ _ _ rfl rfl).1 (two_cells w _ _ _ _ _ _ rfl rfl).2)).mono ?_
  rintro e w' ⟨rfl, hb⟩
  rw [idx_fine, ← hz]
  exact ⟨rfl, (((Below.refl _ _).alloc (Nat.le_refl _) _).alloc (by simp) _).trans (hb.mono (by simp; omega))⟩

theorem fine_tok : fineC 33 specials = tokC := by
  funext c
  have key : ∀ n : Fin 256, fineC 33 specials (UInt8.ofNat n.val) = tokC (UInt8.ofNat n.val) := by decide +kernel
  have := key ⟨c.toNat, c.toNat_lt⟩
  simpa using this
theorem fine_in : fineC 32 [] = inC := by
  funext c
  have key : ∀ n : Fin 256, fineC 32 [] (UInt8.ofNat n.val) = inC (UInt8.ofNat n.val) := by decide +kernel
  have := key ⟨c.toNat, c.toNat_lt⟩
  simpa using this
/-- A byte that stands for itself in quotes. -/
def plainC (c : UInt8) : Bool := inC c && c != 34 && c != 92
theorem fine_plain : fineC 32 [34, 92] = plainC := by
  funext c
  have key : ∀ n : Fin 256, fineC 32 [34, 92] (UInt8.ofNat n.val) = plainC (UInt8.ofNat n.val) := by decide +kernel
  have := key ⟨c.toNat, c.toNat_lt⟩
  simpa using this

theorem while_len {p : UInt8 → Bool} (s : ByteArray) : (s.data.toList.takeWhile p).length ≤ s.size := by
  rw [← size_list]; exact (List.takeWhile_sublist p).length_le
theorem while_take {p : UInt8 → Bool} (s : ByteArray) : (s.extract 0 (s.data.toList.takeWhile p).length).data.toList = s.data.toList.takeWhile p ∧ (s.extract (s.data.toList.takeWhile p).length s.size).data.toList = s.data.toList.dropWhile p := by
  have e : s.data.toList.takeWhile p ++ s.data.toList.dropWhile p = s.data.toList := List.takeWhile_append_dropWhile
  rw [extract_list, extract_list]
  constructor
  · rw [List.drop_zero, Nat.sub_zero]
    conv => lhs; rhs; rw [← e]
    exact List.take_left
  · rw [List.take_of_length_le (by rw [List.length_drop, size_list]; exact Nat.le_refl _)]
    conv => lhs; rhs; rw [← e]
    exact List.drop_left

def KPost (T U : List UInt8) (w : World) (e : Ending) (w' : World) : Prop := ∃ t u, e = .returned (.tuple #[.string t, .string u]) ∧ t.data.toList = T ∧ u.data.toList = U ∧ Below w.heap.size w w'

set_option maxHeartbeats 1600000 in
set_option maxRecDepth 100000 in
theorem ktoken_any (s : ByteArray) (w : World) :
    Calls Tryz.prog 182 #[.string s] w fun e w' => KPost (s.data.toList.takeWhile tokC) (s.data.toList.dropWhile tokC) w e w' := by
  have hw := while_take (p := tokC) s
  have hn := while_len (p := tokC) s
  obtain ⟨T, HT⟩ : ∃ T, Box (T = s.data.toList.takeWhile tokC) := ⟨_, ⟨rfl⟩⟩
  obtain ⟨U, HU⟩ : ∃ U, Box (U = s.data.toList.dropWhile tokC) := ⟨_, ⟨rfl⟩⟩
  rw [← HT.out, ← HU.out] at hw ⊢
  rw [← HT.out] at hn
  obtain ⟨n, Hn⟩ : ∃ n, Box (n = T.length) := ⟨_, ⟨rfl⟩⟩
  rw [← Hn.out] at hw hn
  have HW := Box.mk hw
  obtain ⟨z, HZ⟩ : ∃ z : Int, Box (z = if n = s.size then -1 else (n : Int)) := ⟨_, ⟨rfl⟩⟩
  have HF : Box (z = if (s.data.toList.takeWhile (fineC 33 specials)).length = s.size then -1 else ((s.data.toList.takeWhile (fineC 33 specials)).length : Int)) := ⟨by rw [HZ.out, Hn.out, HT.out, fine_tok]⟩
  clear hw HT HU Hn
  by_cases hns : n = s.size
  · have hz : z = -1 := by rw [HZ.out, if_pos hns]
    rw [hz] at HF
    rw [hns] at HW
    clear HZ hz hns hn
    go_enter Tryz.func182, Tryz.ntmps182
    go_wp2_with (first | (go_at_call 203; refine (wrong_any 33 _ _).mono ?_; rintro e w1 ⟨rfl, rfl⟩) | (go_at_call 194; refine (find_any 33 ⟨#[40, 41, 60, 62, 64, 44, 59, 58, 92, 34, 47, 91, 93, 63, 61]⟩ s w _ HF.out).mono ?_; rintro e w2 ⟨rfl, hb2⟩))
    go_region
    go_wp2
    go_ret2
    refine ⟨_, _, rfl, ?_, ?_, by first | exact hb2 | exact hb2.drew⟩
    · have := HW.out.1
      simpa using this
    · have := HW.out.2
      simpa using this
  · have hz : z = (n : Int) := by rw [HZ.out, if_neg hns]
    rw [hz] at HF
    have hn' : (n : Int) < (s.size : Int) := by omega
    clear HZ hz hns
    go_enter Tryz.func182, Tryz.ntmps182
    go_wp2_with (first | (go_at_call 203; refine (wrong_any 33 _ _).mono ?_; rintro e w1 ⟨rfl, rfl⟩) | (go_at_call 194; refine (find_any 33 ⟨#[40, 41, 60, 62, 64, 44, 59, 58, 92, 34, 47, 91, 93, 63, 61]⟩ s w _ HF.out).mono ?_; rintro e w2 ⟨rfl, hb2⟩))
    go_region
    go_wp2
    go_ret2
    exact ⟨s.extract 0 n, s.extract n s.size, rfl, HW.out.1, HW.out.2, by first | exact hb2 | exact hb2.drew⟩

theorem tokS_split (l : List UInt8) : tokS l = (!(l.takeWhile tokC).isEmpty && (l.dropWhile tokC).isEmpty) := by
  unfold tokS
  cases l with
  | nil => rfl
  | cons c l =>
    by_cases hc : tokC c = true
    · have e1 : (c :: l).takeWhile tokC = c :: l.takeWhile tokC := by simp [hc]
      have e2 : (c :: l).dropWhile tokC = l.dropWhile tokC := by simp [hc]
      rw [e1, e2]
      have e3 : (l.dropWhile tokC).isEmpty = l.all tokC := by
        rw [Bool.eq_iff_iff, List.isEmpty_iff, List.all_eq_true]
        constructor
        · intro h d hd
          have := (List.takeWhile_append_dropWhile (p := tokC) (l := l))
          rw [h, List.append_nil] at this
          rw [← this] at hd
          exact (List.all_eq_true.1 (List.all_takeWhile)) d hd
        · intro h
          have := takeWhile_app (p := tokC) l [] h rfl
          rw [List.append_nil] at this
          exact this.2
      rw [e3]
      simp [hc]
    · have hc' : tokC c = false := by simpa using hc
      simp [hc']

set_option maxHeartbeats 800000 in
set_option maxRecDepth 100000 in
theorem kisToken_any (s : ByteArray) (w : World) :
    Calls Tryz.prog 181 #[.string s] w fun e w' => e = .returned (.bool (tokS s.data.toList)) ∧ Below w.heap.size w w' := by
  obtain ⟨R, HR⟩ : ∃ R, Box (R = tokS s.data.toList) := ⟨_, ⟨rfl⟩⟩
  rw [← HR.out]
  have HR' := Box.mk (tokS_split s.data.toList)
  go_enter Tryz.func181, Tryz.ntmps181
  go_wp2_with fail
  refine (ktoken_any s _).mono ?_
  rintro e w1 ⟨t, u, rfl, ht, hu, hb⟩
  have HE : Box (R = (!t.toList.isEmpty && u.toList.isEmpty)) := ⟨by rw [HR.out, HR'.out, ← ht, ← hu, ByteArray.toList_eq, ByteArray.toList_eq]⟩
  clear ht hu HR HR'
  cases h1 : t.toList.isEmpty
  · cases h2 : u.toList.isEmpty
    all_goals
      have HE' := Box.mk (HE.out.trans (by rw [h1, h2]))
      clear HE
      go_wp2
      go_ret
      exact ⟨ret_bool (by rw [HE'.out]; rfl), hb⟩
  · have HE' : Box (R = false) := ⟨by rw [HE.out, h1]; rfl⟩
    clear HE
    go_wp2
    go_ret
    exact ⟨ret_bool (by rw [HE'.out]), hb⟩

theorem in_all (s : ByteArray) : (s.data.toList.takeWhile inC).length = s.size ↔ s.data.toList.all inC = true := by
  have e := List.takeWhile_append_dropWhile (p := inC) (l := s.data.toList)
  constructor
  · intro h
    have h2 : s.data.toList.takeWhile inC = s.data.toList := by
      refine (List.takeWhile_prefix inC).eq_of_length ?_
      rw [h, size_list]
    rw [← h2]
    exact List.all_takeWhile
  · intro h
    have := (takeWhile_app (p := inC) s.data.toList [] (List.all_eq_true.1 h) rfl).1
    rw [List.append_nil] at this
    rw [this, size_list]

set_option maxHeartbeats 800000 in
set_option maxRecDepth 100000 in
theorem ksay_any (s : ByteArray) (w : World) :
    Calls Tryz.prog 192 #[.string s] w fun e w' => e = .returned (.bool (s.data.toList.all inC)) ∧ Below w.heap.size w w' := by
  obtain ⟨R, HR⟩ : ∃ R, Box (R = s.data.toList.all inC) := ⟨_, ⟨rfl⟩⟩
  rw [← HR.out]
  obtain ⟨z, HZ⟩ : ∃ z : Int, Box (z = if (s.data.toList.takeWhile (fineC 32 [])).length = s.size then -1 else ((s.data.toList.takeWhile (fineC 32 [])).length : Int)) := ⟨_, ⟨rfl⟩⟩
  have hz : (R = true ∧ z < 0) ∨ (R = false ∧ ¬ z < 0) := by
    rw [HR.out, HZ.out, fine_in]
    by_cases h : (s.data.toList.takeWhile inC).length = s.size
    · rw [if_pos h]
      exact .inl ⟨(in_all s).1 h, by omega⟩
    · rw [if_neg h]
      refine .inr ⟨?_, by omega⟩
      rw [← Bool.not_eq_true]
      exact fun h' => h ((in_all s).2 h')
  clear HR
  rcases hz with ⟨rfl, hz⟩ | ⟨rfl, hz⟩
  all_goals
    go_enter Tryz.func192, Tryz.ntmps192
    go_wp2_with (first | (go_at_call 203; refine (wrong_any 32 _ _).mono ?_; rintro e w1 ⟨rfl, rfl⟩) | (go_at_call 194; refine (find_any 32 ⟨#[]⟩ s w _ HZ.out).mono ?_; rintro e w2 ⟨rfl, hb2⟩))
    go_ret
    exact ⟨ret_bool (by simp [hz]), hb2⟩

set_option maxHeartbeats 800000 in
theorem ksmall_any (s : ByteArray) (w : World) (hs : s.size ≤ 1000000) :
    Calls Tryz.prog 191 #[.string s] w fun e w' => e = .returned (.bool (decide (smallS s.data.toList = s.data.toList))) ∧ Below w.heap.size w w' := by
  go_enter Tryz.func191, Tryz.ntmps191
  go_wp2_with fail
  refine (small_str s _ hs).mono ?_
  rintro e w1 ⟨t, rfl, ht, hb⟩
  have HT := Box.mk ht
  clear ht
  go_wp2
  go_ret
  refine ⟨ret_bool ?_, hb⟩
  rw [← HT.out, Bool.eq_iff_iff, decide_eq_true_iff, ByteArray.toList_eq, ByteArray.toList_eq, beq_iff_eq]

theorem lib_left (l : List UInt8) : Lib.trimLeftS l [32, 9] = dropB l := by
  unfold Lib.trimLeftS
  rw [contains_blk]
  rfl
set_option maxHeartbeats 800000 in
theorem kskip_any (s : ByteArray) (w : World) :
    Calls Tryz.prog 183 #[.string s] w fun e w' => ∃ t, e = .returned (.string t) ∧ t.data.toList = dropB s.data.toList ∧ Below w.heap.size w w' := by
  have hc := Tryz.strings_TrimLeft_laid s ⟨#[32, 9]⟩ w (by decide) (by
    intro j b hj
    match j, hj with
    | 0, hj => cases hj; decide
    | 1, hj => cases hj; decide
    | j + 2, hj => simp at hj)
  go_enter Tryz.func183, Tryz.ntmps183
  go_wp2_with (go_at_call 204; refine hc.mono ?_; rintro e w1 ⟨rfl, hb⟩)
  go_ret
  exact ⟨_, rfl, lib_left _, hb⟩

end Go.Proofs.YtmjijnfhgedmlaaGreatDoor

namespace Go.Proofs.YtmjijnfhgedmlaaGreatDoor
open Go.RowKit

theorem QPost_some {b : Nat} {ok : Bool} {e : Ending} {w' : World} (o r : List UInt8) (Q : Option (List UInt8 × List UInt8)) (hQ : Q = some (o, r)) (t u : ByteArray) (he : e = .returned (.string t)) (ht : t.data.toList = o) (hr : RS w' b u ok) (hu : u.data.toList = r) : QPost Q b ok e w' := by
  subst hQ
  exact ⟨t, u, he, ht, hr, hu⟩
theorem QPost_none {b : Nat} {ok : Bool} {e : Ending} {w' : World} (Q : Option (List UInt8 × List UInt8)) (hQ : Q = none) (u : ByteArray) (he : e = .returned (.string ⟨#[]⟩)) (hr : RS w' b u false) (hu : u.size ≤ 1000000) : QPost Q b ok e w' := by
  subst hQ
  exact ⟨he, u, hr, hu⟩
theorem quoted_step (Q : Option (List UInt8 × List UInt8)) (o : List UInt8) (l r : List UInt8) (d : UInt8) (h : Q = (quotedS l).map fun q => (o ++ q.1, q.2)) (hl : quotedS l = (quotedS r).map fun q => (d :: q.1, q.2)) : Q = (quotedS r).map fun q => (o ++ [d] ++ q.1, q.2) := by
  rw [h, hl, map_map_q]

/-- 'take', with the byte's number by itself. -/
theorem take_yesZ (b : Nat) (s : ByteArray) (ok : Bool) (z : Int) (c : UInt8) (hz : z = (c.toNat : Int)) (r : List UInt8) (w : World) (h : RS w b s ok) (hs : s.data.toList = c :: r) :
    Calls Tryz.prog 111 #[.pointer (some ⟨b, 0, none⟩), .int .u8 z] w fun e w' => e = .returned (.bool true) ∧ ∃ t, RS w' b t ok ∧ t.data.toList = r ∧ w.grownBy w' (some b) := by
  subst hz
  exact take_yes b s ok c r w h hs
theorem take_noZ (b : Nat) (s : ByteArray) (ok : Bool) (z : Int) (c : UInt8) (hz : z = (c.toNat : Int)) (w : World) (h : RS w b s ok) (hs : s.data.toList.head? ≠ some c) :
    Calls Tryz.prog 111 #[.pointer (some ⟨b, 0, none⟩), .int .u8 z] w fun e w' => e = .returned (.bool false) ∧ w' = w := by
  subst hz
  exact take_no b s ok c w h hs

set_option maxHeartbeats 3200000 in
set_option maxRecDepth 100000 in
theorem rquoted_any (b : Nat) (s : ByteArray) (ok : Bool) (w : World) (h : RS w b s ok) (hl : s.size ≤ 1000000) :
    Calls Tryz.prog 114 #[.pointer (some ⟨b, 0, none⟩)] w fun e w' => QPost (quotedS s.data.toList) b ok e w' ∧ w.grownBy w' (some b) := by
  obtain ⟨Q, HQ⟩ : ∃ Q, Box (Q = quotedS s.data.toList) := ⟨_, ⟨rfl⟩⟩
  rw [← HQ.out]
  go_enter Tryz.func114, Tryz.ntmps114
  go_wp2
  go_loopg [3] s.size (fun gf x wx => ∃ t o : ByteArray, x = .string o ∧ RS wx b t ok ∧ Box (Q = (quotedS t.data.toList).map fun q => (o.data.toList ++ q.1, q.2)) ∧ w.grownBy wx (some b) ∧ t.size ≤ gf ∧ t.size + o.size ≤ s.size)
  case atStart => exact ⟨s, ⟨#[]⟩, rfl, h, ⟨by rw [HQ.out]; simp⟩, grown_refl _ _, Nat.le_refl _, Nat.le_refl (s.size + 0)⟩
  case round =>
    obtain ⟨t, o, rfl, hr, HT, hg, hgf, hso⟩ := hrel
    obtain ⟨c0, c1, f0, f1, hb⟩ := hr.cells
    by_cases h0 : t.size = 0
    · have he := empty_of t h0
      have HN : Box (Q = none) := ⟨by rw [HT.out, data_nil t h0, quoted_nil]; rfl⟩
      have HR := Box.mk (hr.setO false)
      clear HT HQ
      go_wp2
      go_ret
      exact ⟨QPost_none Q HN.out _ rfl HR.out (by omega), hg.trans (grown_set _ _ _ _)⟩
    · have hp : 0 < t.size := by omega
      have he := nonempty_of t h0
      have HS := Box.mk (head_split t hp)
      obtain ⟨c, HC⟩ : ∃ c, Box (t[0] = c) := ⟨_, ⟨rfl⟩⟩
      rw [HC.out] at HS
      obtain ⟨r, Hr⟩ : ∃ r, Box ((t.extract 1 t.size).data.toList = r) := ⟨_, ⟨rfl⟩⟩
      rw [Hr.out] at HS
      have hrl : r.length + 1 = t.size := by rw [← size_list t, HS.out]; simp
      have hbyte : (t[0].toNat : Int) < 256 := by have := t[0].toNat_lt; omega
      by_cases h34 : c = 34
      · have HE : Box (Q = some (o.data.toList, r)) := ⟨by rw [HT.out, HS.out, h34, quoted_end]; simp⟩
        have HS' : Box (t.data.toList = 34 :: r) := ⟨by rw [HS.out, h34]⟩
        clear HT HQ HC
        go_wp2_with (go_at_call 111; refine (take_yesZ b t ok 34 34 rfl r _ hr HS'.out).mono ?_; rintro e w1 ⟨rfl, u, hr1, hu, hg1⟩)
        go_ret
        exact ⟨QPost_some _ _ Q HE.out _ u rfl rfl hr1 hu, hg.trans hg1⟩
      · have HN34 : Box (t.data.toList.head? ≠ some 34) := ⟨by rw [HS.out]; simpa using h34⟩
        by_cases h1 : t.size = 1
        · -- one byte is left
          have hr0 : r = [] := List.eq_nil_of_length_eq_zero (by omega)
          have HN : Box (Q = none) := ⟨by rw [HT.out, HS.out, hr0, quoted_one c h34]; rfl⟩
          have z1 : ¬ (1 : Int) < (t.size : Int) := by omega
          clear h1
          cases hin : inC t[0]
          · have HI := Box.mk (inC_no _ hin)
            have HR := Box.mk (hr.setO false)
            clear HT HQ HC hin h34
            go_wp2_with (first | (go_at_call 111; refine (take_noZ b t ok 34 34 rfl _ hr HN34.out).mono ?_; rintro e w1 ⟨rfl, rfl⟩) | (go_at_call 29; refine (in_no _ _ _ _ HI.out).mono ?_; rintro e w' ⟨rfl, rfl⟩))
            go_ret
            exact ⟨QPost_none Q HN.out _ rfl HR.out (by omega), hg.trans (grown_set _ _ _ _)⟩
          · have HI := Box.mk (inC_yes _ hin)
            have HR := Box.mk (hr.setS (t.extract 1 t.size))
            have hsz : (t.extract 1 t.size).size = t.size - 1 := by simp [ByteArray.size_extract]
            have hsz0 : (t.extract 0 1).size = 1 := by rw [← size_list, extract_one t 0 hp]; rfl
            have HN' : Box (Q = (quotedS (t.extract 1 t.size).data.toList).map fun q => ((o ++ t.extract 0 1).data.toList ++ q.1, q.2)) := ⟨by rw [HN.out, Hr.out, hr0, quoted_nil]; rfl⟩
            clear HT HQ HC hin h34
            go_wp2_with (first | (go_at_call 111; refine (take_noZ b t ok 34 34 rfl _ hr HN34.out).mono ?_; rintro e w1 ⟨rfl, rfl⟩) | (go_at_call 29; refine (in_yes _ _ _ _ HI.out.1 HI.out.2).mono ?_; rintro e w' ⟨rfl, rfl⟩))
            go_roundg (t.size - 1)
            case measure => omega
            case rel => exact ⟨_, _, rfl, HR.out, HN', hg.trans (grown_set _ _ _ _), by omega, by rw [ByteArray.size_append]; omega⟩
        · have z1 : (1 : Int) < (t.size : Int) := by omega
          by_cases h92 : c = 92
          · -- a byte behind a backslash
            obtain ⟨d, r', hrd⟩ : ∃ d r', r = d :: r' := by
              cases r with
              | nil => simp at hrl; omega
              | cons d r' => exact ⟨d, r', rfl⟩
            have HS' : Box (t.data.toList = 92 :: d :: r') := ⟨by rw [HS.out, h92, hrd]⟩
            have HX : Box (Q = (if inC d then (quotedS r').map fun q => (d :: q.1, q.2) else none).map fun q => (o.data.toList ++ q.1, q.2)) := ⟨by rw [HT.out, HS'.out, quoted_esc1]⟩
            clear HT HQ HC h34 h92
            cases hin : inC d
            · have HN : Box (Q = none) := ⟨by rw [HX.out, hin]; rfl⟩
              have HI := Box.mk (inC_no _ hin)
              clear HX hin
              go_wp2_with fail
              refine (take_noZ b t ok 34 34 rfl _ hr HN34.out).mono ?_
              rintro e w1 ⟨rfl, rfl⟩
              go_wp2_with fail
              refine (take_yesZ b t ok 92 92 rfl (d :: r') _ hr HS'.out).mono ?_
              rintro e w1 ⟨rfl, u, hr1, hu, hg1⟩
              obtain ⟨up, ud, ux⟩ := cons_get u d r' hu
              have HI' := Box.mk (ud ▸ HI.out)
              have hbu : (u[0].toNat : Int) < 256 := by (have := u[0].toNat_lt; omega)
              have HU := Box.mk hu
              have HR := Box.mk (hr1.setO false)
              obtain ⟨d0, d1, g0, g1, hb1⟩ := hr1.cells
              clear ux hu ud
              go_wp2_with fail
              refine (in_no _ _ _ _ HI'.out).mono ?_
              rintro e w' ⟨rfl, rfl⟩
              go_wp2
              go_ret
              exact ⟨QPost_none Q HN.out _ rfl HR.out (by rw [← size_list, HU.out]; have := hrd ▸ hrl; simp at this ⊢; omega), (hg.trans hg1).trans (grown_set _ _ _ _)⟩
            · have HN : Box (Q = (quotedS r').map fun q => (o.data.toList ++ [d] ++ q.1, q.2)) := ⟨by rw [HX.out, hin]; exact map_map_q _ _ _⟩
              have HI := Box.mk (inC_yes _ hin)
              clear HX hin
              go_wp2_with fail
              refine (take_noZ b t ok 34 34 rfl _ hr HN34.out).mono ?_
              rintro e w1 ⟨rfl, rfl⟩
              go_wp2_with fail
              refine (take_yesZ b t ok 92 92 rfl (d :: r') _ hr HS'.out).mono ?_
              rintro e w1 ⟨rfl, u, hr1, hu, hg1⟩
              obtain ⟨up, ud, ux⟩ := cons_get u d r' hu
              have HI' := Box.mk (ud ▸ HI.out)
              have hbu : (u[0].toNat : Int) < 256 := by (have := u[0].toNat_lt; omega)
              have HU := Box.mk hu
              have HUX := Box.mk ux
              have HUD := Box.mk ud
              have HR := Box.mk (hr1.setS (u.extract 1 u.size))
              obtain ⟨d0, d1, g0, g1, hb1⟩ := hr1.cells
              clear ux hu ud
              go_wp2_with fail
              refine (in_yes _ _ _ _ HI'.out.1 HI'.out.2).mono ?_
              rintro e w' ⟨rfl, rfl⟩
              go_wp2
              have hus : u.size + 1 = t.size := by
                have e := size_list u
                rw [HU.out] at e
                rw [hrd] at hrl
                omega
              have hsz : (u.extract 1 u.size).size = u.size - 1 := by simp [ByteArray.size_extract]
              have hsz0 : (u.extract 0 1).size = 1 := by rw [← size_list, extract_one u 0 up]; rfl
              have e0 : (u.extract 0 1).data.toList = [d] := by rw [extract_one u 0 up, HUD.out]
              go_roundg (t.size - 2)
              case measure => omega
              case rel => exact ⟨_, _, rfl, HR.out, ⟨by rw [HN.out, HUX.out, ByteArray.data_append, Array.toList_append, e0]⟩, (hg.trans hg1).trans (grown_set _ _ _ _), by omega, by rw [ByteArray.size_append]; omega⟩
          · have HN92 : Box (t.data.toList.head? ≠ some 92) := ⟨by rw [HS.out]; simpa using h92⟩
            cases hin : inC t[0]
            · have HN : Box (Q = none) := ⟨by rw [HT.out, HS.out, quoted_on c r h34 h92, ← HC.out, hin]; rfl⟩
              have HI := Box.mk (inC_no _ hin)
              have HR := Box.mk (hr.setO false)
              clear HT HQ HC hin h34 h92
              go_wp2_with fail
              refine (take_noZ b t ok 34 34 rfl _ hr HN34.out).mono ?_
              rintro e w1 ⟨rfl, rfl⟩
              go_wp2_with fail
              refine (take_noZ b t ok 92 92 rfl _ hr HN92.out).mono ?_
              rintro e w1 ⟨rfl, rfl⟩
              go_wp2_with fail
              refine (in_no _ _ _ _ HI.out).mono ?_
              rintro e w' ⟨rfl, rfl⟩
              go_wp2
              go_ret
              exact ⟨QPost_none Q HN.out _ rfl HR.out (by omega), hg.trans (grown_set _ _ _ _)⟩
            · have hsz : (t.extract 1 t.size).size = t.size - 1 := by simp [ByteArray.size_extract]
              have hsz0 : (t.extract 0 1).size = 1 := by rw [← size_list, extract_one t 0 hp]; rfl
              have HN : Box (Q = (quotedS (t.extract 1 t.size).data.toList).map fun q => ((o ++ t.extract 0 1).data.toList ++ q.1, q.2)) := ⟨by
                have e0 : (t.extract 0 1).data.toList = [c] := by rw [extract_one t 0 hp, HC.out]
                rw [HC.out] at hin
                rw [HT.out, HS.out, quoted_on c r h34 h92, hin, Hr.out, ByteArray.data_append, Array.toList_append, e0]
                exact map_map_q _ _ _⟩
              have HI := Box.mk (inC_yes _ hin)
              have HR := Box.mk (hr.setS (t.extract 1 t.size))
              clear HT HQ HC hin h34 h92
              go_wp2_with fail
              refine (take_noZ b t ok 34 34 rfl _ hr HN34.out).mono ?_
              rintro e w1 ⟨rfl, rfl⟩
              go_wp2_with fail
              refine (take_noZ b t ok 92 92 rfl _ hr HN92.out).mono ?_
              rintro e w1 ⟨rfl, rfl⟩
              go_wp2_with fail
              refine (in_yes _ _ _ _ HI.out.1 HI.out.2).mono ?_
              rintro e w' ⟨rfl, rfl⟩
              go_wp2
              go_roundg (t.size - 1)
              case measure => omega
              case rel => exact ⟨_, _, rfl, HR.out, HN, hg.trans (grown_set _ _ _ _), by omega, by rw [ByteArray.size_append]; omega⟩

end Go.Proofs.YtmjijnfhgedmlaaGreatDoor

