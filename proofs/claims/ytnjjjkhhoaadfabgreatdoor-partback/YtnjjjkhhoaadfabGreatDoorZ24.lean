import Derived.Test.YtnjjjkhhoaadfabGreatDoorZ1
import Derived.Test.YtnjjjkhhoaadfabGreatDoorCards
import Derived.ProofKit
import Derived.OpenShut
import Derived.SizedLaws
import Derived.Carry
import Derived.Deep.SlicePairs
import Derived.Lay
import Derived.Shelf.Vars
import Derived.Test.YtnjjjkhhoaadfabGreatDoorZY4
namespace Go.Proofs.YtnjjjkhhoaadfabGreatDoor
open Go.ChangeShapes Go.WideShapes Go.ChangeAt Go.RowKit Go.Deep

def Big (L : List Fl) : Prop := L.length ≤ 1000000000000000 ∧ ∀ f ∈ L, f.1.size ≤ 1000000000000000 ∧ f.2.size ≤ 1000000000000000

theorem weightsAll_mem {H : Type} {P : Program} {e : TypeId} {n : Nat} {d : DataW H} : ∀ {l : List (DataW H)}, d ∈ l → n ∈ d.weights P e → n ∈ DataW.weightsAll P e l
  | x :: l, h, hn => by
    simp only [DataW.weightsAll, List.mem_append]
    rcases List.mem_cons.1 h with rfl | h
    · exact .inl hn
    · exact .inr (weightsAll_mem h hn)
  | [], h, _ => absurd h (by simp)

theorem cellsField : Tryz.prog.cellsOf 40 = 2 := by kernel_rfl
theorem cellsStr : Tryz.prog.cellsOf 9 = 1 := by kernel_rfl
theorem bytesField : Tryz.prog.bytesOf 40 = 32 := by kernel_rfl

set_option maxRecDepth 100000 in
/-- A list of fields that came in. -/
theorem open_fields {H : Type} {enc : TypeId × Value → H} {W : World} {base : Nat} {v : Value} {d : DataW H} {p : List MemPlace} (hv : Value.okWide Tryz.prog W .any base 22 v) (h : DataW.Trod enc Tryz.prog W 0 (fun _ => true) true 22 v d p)
    (hw : ∀ n ∈ d.weights Tryz.prog 22, n ≤ reachBytes) : ∃ L, FL W v L ∧ Big L := by
  obtain ⟨a0, l0, c0, rfl⟩ := okWide_slice Tryz.underlying22 hv
  obtain ⟨fuel, h⟩ := h
  rcases open_slice_pairs Tryz.underlying22 Tryz.underlying40 cellsField rfl rfl cellsStr cellsStr h with ⟨hc, hx⟩ | ⟨a, len, cap, m, n, V0, V1, D0, D1, P0, P1, hc, hb, hl, hm, hmm, hx, hcell⟩
  · have hc' : Value.slice a0 l0 c0 = .slice none 0 0 := by simpa [Value.cells] using hc
    rw [hc']
    exact ⟨[], FL.nil W, by simp, fun f hf => absurd hf (by simp)⟩
  · have hc' : Value.slice a0 l0 c0 = .slice (some a) len cap := by simpa [Value.cells] using hc
    rw [hc']
    have hlm : len ≤ m := by rw [hmm]; split <;> omega
    have each : ∀ i, i < m → ∃ q : Fl, V0 i = .string q.1 ∧ V1 i = .string q.2 ∧ D0 i = .lit (.string q.1.data.toList) ∧ D1 i = .lit (.string q.2.data.toList) := by
      intro i hi
      obtain ⟨_, _, h0, h1⟩ := hcell i hi
      obtain ⟨s0, e0, x0, _⟩ := DataW.trod_string Tryz.underlying9 h0
      obtain ⟨s1, e1, x1, _⟩ := DataW.trod_string Tryz.underlying9 h1
      simp only [Prod.mk.injEq] at x0 x1
      exact ⟨(s0, s1), by simpa using e0, by simpa using e1, x0.1, x1.1⟩
    have : Inhabited Fl := ⟨(⟨#[]⟩, ⟨#[]⟩)⟩
    obtain ⟨q, hq⟩ := choose_lt each
    have hlen : ((List.range len).map q).length = len := by simp
    simp only [Prod.mk.injEq] at hx
    obtain ⟨rfl, rfl⟩ := hx
    refine ⟨(List.range len).map q, ⟨some a, cap, by rw [hlen], by rw [hlen]; exact hl, fun k hk => ?_⟩, ?_, ?_⟩
    · have hk' : k < len := by rw [hlen] at hk; exact hk
      obtain ⟨c0, c1, _, _⟩ := hcell k (by omega)
      obtain ⟨z0, _, _, _⟩ := hcell 0 (by omega)
      obtain ⟨b, off, sp⟩ := a
      have hsp : sp = none := by
        have := World.cell?_spot z0
        simpa [Addr.add] using this
      subst hsp
      rw [Addr.add_lit] at c0 c1
      refine ⟨b, off, rfl, ?_, ?_⟩
      · rw [c0, (hq k (by omega)).1]; simp
      · rw [← Nat.add_assoc] at c1
        rw [c1, (hq k (by omega)).2.1]; simp
    · have := hw ((len + (m - len)) * Tryz.prog.bytesOf 40) (by simp [DataW.weights, Tryz.underlying22])
      rw [bytesField] at this
      unfold reachBytes at this
      rw [hlen]; omega
    · intro f hf
      simp only [List.mem_map, List.mem_range] at hf
      obtain ⟨i, hi, rfl⟩ := hf
      have hd := (hq i (by omega)).2.2
      have key : ∀ n, n = (q i).1.data.toList.length ∨ n = (q i).2.data.toList.length → n ≤ reachBytes := fun n hn => by
        refine hw n ?_
        simp only [DataW.weights, Tryz.underlying22, List.mem_cons, List.mem_append]
        refine .inr (.inl (weightsAll_mem (d := .agg [D0 i, D1 i]) (List.mem_map.2 ⟨i, List.mem_range.2 hi, rfl⟩) ?_))
        rw [hd.1, hd.2]
        simp [DataW.weights, Tryz.underlying40, DataW.weightsEach]
        exact hn
      have k0 := key _ (.inl rfl)
      have k1 := key _ (.inr rfl)
      rw [size_list] at k0 k1
      unfold reachBytes at k0 k1
      omega

/-- The tables laid into a world by the library's function: what the list asks of data. -/
theorem laidMet_on {P : Program} (w0 : World) (laid : List (String × DataW Unit)) (args : Array Value) (hf : w0.layFits P laid [] = true) (hi : w0.layIfaces P laid (w0.layVars P laid) = true) :
    laidMet P laid ((w0.layVars P laid).forCall (fun _ _ => 0) ⟨#[], args, []⟩).memory := by
  have e1 : (laid.filter fun x => (laid.map (·.1)).contains x.1) = laid := List.filter_eq_self.2 fun x hx => List.contains_iff_mem.2 (List.mem_map.2 ⟨x, hx, rfl⟩)
  have e2 : (laid.filter fun x => !(laid.map (·.1)).contains x.1) = [] := List.filter_eq_nil_iff.2 fun x hx => by rw [List.contains_iff_mem.2 (List.mem_map.2 ⟨x, hx, rfl⟩)]; simp
  have h : laidMet P laid (w0.layVars P laid) := laidMet_layVars (w0 := w0) (laid.map (·.1)) [] (by rw [e1]) (by rw [e1]; exact hf) (by rw [e1]; exact hi) (by rw [e2]; exact LaidIn.none)
  exact h.of_heap (by simp [World.memory, World.forCall, Input.heap])

def layCells (cells : Array Value) : Obj → Obj
  | .cells _ t frozen => .cells cells t frozen
  | o => o

theorem own : ownKnob Tryz.prog.godebug = none := by kernel_rfl

end Go.Proofs.YtnjjjkhhoaadfabGreatDoor

namespace Go.Proofs.YtnjjjkhhoaadfabGreatDoor
open Go.ChangeShapes Go.WideShapes Go.ChangeAt Go.RowKit Go.Deep

/- Parts that came in. -/
theorem cellsPart : Tryz.prog.cellsOf 25 = 4 := by kernel_rfl
theorem cellsFlds : Tryz.prog.cellsOf 22 = 1 := by kernel_rfl
theorem cellsParts : Tryz.prog.cellsOf 23 = 1 := by kernel_rfl
theorem cellsBool : Tryz.prog.cellsOf 4 = 1 := by kernel_rfl
theorem bytesPart : Tryz.prog.bytesOf 25 = 72 := by kernel_rfl
theorem PVX.up {w : World} {S : Nat → Prop} : ∀ (d : Nat) (v : P4) (p : PT), PVX w S d v p → PVX w S (d + 1) v p
  | 0, _, _, h => h.elim
  | d + 1, v, .mk L b many ps, h => by
    obtain ⟨A, cap, bb, lh, h1, h2, h3, h4, h5, h6, h7, h8, h9, h10, h11⟩ := h
    refine ⟨A, cap, bb, lh, h1, h2, h3, h4, h5, h6, h7, h8, h9, h10, fun k hk => ?_⟩
    obtain ⟨q, hc, hq⟩ := h11 k hk
    exact ⟨q, hc, PVX.up d q _ hq⟩
theorem FL.flb {w : World} {v : Value} {L : List Fl} (h : FL w v L) : FLB w (fun _ => True) v L := by
  obtain ⟨A, cap, rfl, hc, h1⟩ := h
  exact ⟨A, cap, rfl, hc, fun k hk => by obtain ⟨b, off, e, c1, c2⟩ := h1 k hk; exact ⟨b, off, e, trivial, c1, c2⟩⟩

set_option maxRecDepth 100000 in
/-- A list of fields, as cells. -/
theorem fields_in {H : Type} {enc : TypeId × Value → H} {W : World} {fuel : Nat} {v : Value} {x : DataW H × List MemPlace} (h : DataW.trod enc Tryz.prog W 0 (fun _ => true) true fuel 22 [v] = some x)
    (hw : ∀ n ∈ x.1.weights Tryz.prog 22, n ≤ reachBytes) : ∃ L, FL W v L ∧ BigL L := by
  rcases open_slice_pairs Tryz.underlying22 Tryz.underlying40 cellsField rfl rfl cellsStr cellsStr h with ⟨hc, hx⟩ | ⟨a, len, cap, m, n, V0, V1, D0, D1, P0, P1, hc, hb, hl, hm, hmm, hx, hcell⟩
  · have hc' : v = .slice none 0 0 := by simpa using hc
    rw [hc']
    exact ⟨[], FL.nil W, by simp, fun f hf => absurd hf (by simp)⟩
  · have hc' : v = .slice (some a) len cap := by simpa using hc
    rw [hc']
    have hlm : len ≤ m := by rw [hmm]; split <;> omega
    have each : ∀ i, i < m → ∃ q : Fl, V0 i = .string q.1 ∧ V1 i = .string q.2 ∧ D0 i = .lit (.string q.1.data.toList) ∧ D1 i = .lit (.string q.2.data.toList) := by
      intro i hi
      obtain ⟨_, _, h0, h1⟩ := hcell i hi
      obtain ⟨s0, e0, x0, _⟩ := DataW.trod_string Tryz.underlying9 h0
      obtain ⟨s1, e1, x1, _⟩ := DataW.trod_string Tryz.underlying9 h1
      simp only [Prod.mk.injEq] at x0 x1
      exact ⟨(s0, s1), by simpa using e0, by simpa using e1, x0.1, x1.1⟩
    have : Inhabited Fl := ⟨(⟨#[]⟩, ⟨#[]⟩)⟩
    obtain ⟨q, hq⟩ := choose_lt each
    have hlen : ((List.range len).map q).length = len := by simp
    subst hx
    refine ⟨(List.range len).map q, ⟨some a, cap, by rw [hlen], by rw [hlen]; exact hl, fun k hk => ?_⟩, ?_, ?_⟩
    · have hk' : k < len := by rw [hlen] at hk; exact hk
      obtain ⟨c0, c1, _, _⟩ := hcell k (by omega)
      obtain ⟨z0, _, _, _⟩ := hcell 0 (by omega)
      obtain ⟨b, off, sp⟩ := a
      have hsp : sp = none := by
        have := World.cell?_spot z0
        simpa [Addr.add] using this
      subst hsp
      rw [Addr.add_lit] at c0 c1
      refine ⟨b, off, rfl, ?_, ?_⟩
      · rw [c0, (hq k (by omega)).1]; simp
      · rw [← Nat.add_assoc] at c1
        rw [c1, (hq k (by omega)).2.1]; simp
    · have := hw ((len + (m - len)) * Tryz.prog.bytesOf 40) (by simp [DataW.weights, Tryz.underlying22])
      rw [bytesField] at this
      unfold reachBytes at this
      rw [hlen]; omega
    · intro f hf
      simp only [List.mem_map, List.mem_range] at hf
      obtain ⟨i, hi, rfl⟩ := hf
      have hd := (hq i (by omega)).2.2
      have key : ∀ n, n = (q i).1.data.toList.length ∨ n = (q i).2.data.toList.length → n ≤ reachBytes := fun n hn => by
        refine hw n ?_
        simp only [DataW.weights, Tryz.underlying22, List.mem_cons, List.mem_append]
        refine .inr (.inl (weightsAll_mem (d := .agg [D0 i, D1 i]) (List.mem_map.2 ⟨i, List.mem_range.2 hi, rfl⟩) ?_))
        rw [hd.1, hd.2]
        simp [DataW.weights, Tryz.underlying40, DataW.weightsEach]
        exact hn
      have k0 := key _ (.inl rfl)
      have k1 := key _ (.inr rfl)
      rw [size_list] at k0 k1
      unfold reachBytes at k0 k1
      omega
theorem big_of {L : List Fl} (h : BigL L) : BigL L := h
theorem list4 {α : Type} {l : List α} (h : l.length = 4) : ∃ a b c d, l = [a, b, c, d] := by
  match l, h with
  | [a, b, c, d], _ => exact ⟨a, b, c, d, rfl⟩

set_option maxRecDepth 100000 in
/-- A part, as cells. -/
theorem part_in {H : Type} {enc : TypeId × Value → H} {W : World} : ∀ (fuel : Nat) (cs : List Value) (x : DataW H × List MemPlace), DataW.trod enc Tryz.prog W 0 (fun _ => true) true fuel 25 cs = some x →
    (∀ n ∈ x.1.weights Tryz.prog 25, n ≤ reachBytes) → ∃ v : P4, ∃ p, cs = [v.1, v.2.1, v.2.2.1, v.2.2.2] ∧ PVX W (fun _ => True) fuel v p
  | 0, cs, x, h, _ => by simp [DataW.trod] at h
  | fuel + 1, cs, x, h, hw => by
    obtain ⟨xs, n, hn, hx, hcl, hxl, hfld⟩ := DataW.trod_struct Tryz.underlying25 h
    obtain rfl : n = fuel := by omega
    rw [cellsPart] at hcl
    obtain ⟨c0, c1, c2, c3, rfl⟩ := list4 hcl
    obtain ⟨y0, y1, y2, y3, rfl⟩ := list4 hxl
    have f0 : DataW.trod enc Tryz.prog W 0 (fun _ => true) true n 22 [c0] = some y0 := by
      have g : DataW.trod enc Tryz.prog W 0 (fun _ => true) true n 22 (([c0, c1, c2, c3].drop 0).take (Tryz.prog.cellsOf 22)) = some y0 := hfld 0 _ rfl
      rw [cellsFlds] at g
      exact g
    have f1 : DataW.trod enc Tryz.prog W 0 (fun _ => true) true n 9 [c1] = some y1 := by
      have g : DataW.trod enc Tryz.prog W 0 (fun _ => true) true n 9 (([c0, c1, c2, c3].drop 1).take (Tryz.prog.cellsOf 9)) = some y1 := hfld 1 _ rfl
      rw [cellsStr] at g
      exact g
    have f2 : DataW.trod enc Tryz.prog W 0 (fun _ => true) true n 4 [c2] = some y2 := by
      have g : DataW.trod enc Tryz.prog W 0 (fun _ => true) true n 4 (([c0, c1, c2, c3].drop 2).take (Tryz.prog.cellsOf 4)) = some y2 := hfld 2 _ rfl
      rw [cellsBool] at g
      exact g
    have f3 : DataW.trod enc Tryz.prog W 0 (fun _ => true) true n 23 [c3] = some y3 := by
      have g : DataW.trod enc Tryz.prog W 0 (fun _ => true) true n 23 (([c0, c1, c2, c3].drop 3).take (Tryz.prog.cellsOf 23)) = some y3 := hfld 3 _ rfl
      rw [cellsParts] at g
      exact g
    subst hx
    have hW0 : ∀ m ∈ y0.1.weights Tryz.prog 22, m ≤ reachBytes := fun m hm => hw m (by
      simp only [List.map_cons, List.map_nil]
      simp [DataW.weights, Tryz.underlying25, DataW.weightsEach, hm])
    have hW1 : ∀ m ∈ y1.1.weights Tryz.prog 9, m ≤ reachBytes := fun m hm => hw m (by
      simp only [List.map_cons, List.map_nil]
      simp [DataW.weights, Tryz.underlying25, DataW.weightsEach, hm])
    have hW3 : ∀ m ∈ y3.1.weights Tryz.prog 23, m ≤ reachBytes := fun m hm => hw m (by
      simp only [List.map_cons, List.map_nil]
      simp [DataW.weights, Tryz.underlying25, DataW.weightsEach, hm])
    obtain ⟨lh, hF, hB⟩ := fields_in f0 hW0
    obtain ⟨s1, e1, x1, _⟩ := DataW.trod_string Tryz.underlying9 f1
    obtain ⟨q2, e2, x2⟩ := DataW.trod_bool Tryz.underlying4 f2
    simp only [List.cons.injEq, and_true] at e1 e2
    subst e1 e2
    have hs1 : s1.size ≤ 1000000000000000 := by
      have := hW1 s1.data.toList.length (by rw [x1]; simp [DataW.weights])
      rw [size_list] at this
      unfold reachBytes at this
      omega
    rcases DataW.trod_slice Tryz.underlying23 f3 with ⟨hc, _⟩ | ⟨a, len, cap, elems, rest, k, hk, hc, hx3, hb, hl, hm, hlen, hel, _⟩
    · have hc' : c3 = .slice none 0 0 := by simpa using hc
      subst hc'
      exact ⟨(c0, .string s1, .bool q2, .slice none 0 0), .mk (lh.map fl2) s1.data.toList q2 [], rfl, none, 0, s1, lh, rfl, rfl, rfl, hF.flb, rfl, (big_of hB), rfl, (by omega), Nat.le_refl _, by simp, fun j hj => absurd hj (by simp)⟩
    · have hc' : c3 = .slice (some a) len cap := by simpa using hc
      subst hc' hk
      have hall : ∀ i, i < len → ∃ q : P4 × PT, (∃ cs', W.cells? 0 (a.add (i * 4)) 4 = some cs' ∧ cs' = [q.1.1, q.1.2.1, q.1.2.2.1, q.1.2.2.2]) ∧ PVX W (fun _ => True) k q.1 q.2 := by
        intro i hi
        have h1 := hel i hi
        rw [List.getElem?_eq_getElem (by omega), cellsPart] at h1
        obtain ⟨cs', hcs, htr⟩ := Option.bind_eq_some_iff.1 h1
        obtain ⟨v, p, hv, hp⟩ := part_in k cs' _ htr (fun m hm => hW3 m (by
          rw [hx3]
          simp only [DataW.weights, Tryz.underlying23, List.mem_cons, List.mem_append]
          exact .inr (.inl (weightsAll_mem (List.mem_map.2 ⟨elems[i], List.getElem_mem (by omega), rfl⟩) hm))))
        exact ⟨(v, p), ⟨cs', hcs, hv⟩, hp⟩
      have : Inhabited (P4 × PT) := ⟨((.nilIface, .nilIface, .nilIface, .nilIface), .mk [] [] false [])⟩
      obtain ⟨q, hq⟩ := choose_lt hall
      have hlb : len ≤ 1000000000000000 := by
        have := hW3 ((elems.length + rest.length) * Tryz.prog.bytesOf 25) (by
          rw [hx3]
          simp [DataW.weights, Tryz.underlying23])
        rw [bytesPart] at this
        unfold reachBytes at this
        omega
      have hpl : ((List.range len).map fun i => (q i).2).length = len := by simp
      refine ⟨(c0, .string s1, .bool q2, .slice (some a) len cap), .mk (lh.map fl2) s1.data.toList q2 ((List.range len).map fun i => (q i).2), rfl, some a, cap, s1, lh, rfl, rfl, by rw [hpl], hF.flb, rfl, (big_of hB), rfl, (by omega), by rw [hpl]; exact hl, by rw [hpl]; omega, fun j hj => ?_⟩
      have hj' : j < len := by rw [hpl] at hj; exact hj
      obtain ⟨⟨cs', hcs, hcv⟩, hp⟩ := hq j hj'
      obtain ⟨_, _, hcell⟩ := World.cells?_some hcs
      refine ⟨(q j).1, ?_, ?_⟩
      · have z0 := hcell 0 (by omega)
        have z1 := hcell 1 (by omega)
        have z2 := hcell 2 (by omega)
        have z3 := hcell 3 (by omega)
        rw [hcv] at z0 z1 z2 z3
        obtain ⟨⟨cs0, hcs0, hcv0⟩, _⟩ := hq 0 (by omega)
        obtain ⟨_, _, hcell0⟩ := World.cells?_some hcs0
        have u0 := hcell0 0 (by omega)
        rw [hcv0] at u0
        obtain ⟨b, off, sp⟩ := a
        have hsp : sp = none := by
          have := World.cell?_spot u0
          simpa [Addr.add] using this
        subst hsp
        simp only [Addr.add_lit, Nat.add_zero] at z0 z1 z2 z3
        exact ⟨b, off, rfl, trivial, by simpa using z0, by simpa using z1, by simpa using z2, by simpa using z3⟩
      · simp only [List.getElem_map, List.getElem_range]
        exact PVX.up k _ _ hp

end Go.Proofs.YtnjjjkhhoaadfabGreatDoor

