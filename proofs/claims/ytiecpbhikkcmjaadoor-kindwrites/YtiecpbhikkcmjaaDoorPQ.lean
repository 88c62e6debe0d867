import Derived.Test.YtiecpbhikkcmjaaDoorPF
namespace Go.Proofs.YtiecpbhikkcmjaaDoor
open Go.ChangeShapes Go.WideShapes Go.ChangeAt Go.RowKit Go.Deep

theorem cellsParam : Tryd.prog.cellsOf 67 = 2 := by kernel_rfl
theorem bytesParam : Tryd.prog.bytesOf 67 = 32 := by kernel_rfl

set_option maxRecDepth 100000 in
/-- A list of parameters that came in. -/
theorem open_params {H : Type} {enc : TypeId × Value → H} {W : World} {base : Nat} {v : Value} {d : DataW H} {p : List MemPlace} (hv : Value.okWide Tryd.prog W .any base 59 v) (h : DataW.Trod enc Tryd.prog W 0 (fun _ => true) true 59 v d p)
    (hw : ∀ n ∈ d.weights Tryd.prog 59, n ≤ reachBytes) : ∃ L, FL W v L ∧ Big L := by
  obtain ⟨a0, l0, c0, rfl⟩ := okWide_slice Tryd.underlying59 hv
  obtain ⟨fuel, h⟩ := h
  rcases open_slice_pairs Tryd.underlying59 Tryd.underlying67 cellsParam rfl rfl cellsStr cellsStr h with ⟨hc, hx⟩ | ⟨a, len, cap, m, n, V0, V1, D0, D1, P0, P1, hc, hb, hl, hm, hmm, hx, hcell⟩
  · have hc' : Value.slice a0 l0 c0 = .slice none 0 0 := by simpa [Value.cells] using hc
    rw [hc']
    exact ⟨[], FL.nil W, by simp, fun f hf => absurd hf (by simp)⟩
  · have hc' : Value.slice a0 l0 c0 = .slice (some a) len cap := by simpa [Value.cells] using hc
    rw [hc']
    have hlm : len ≤ m := by rw [hmm]; split <;> omega
    have each : ∀ i, i < m → ∃ q : Fl, V0 i = .string q.1 ∧ V1 i = .string q.2 ∧ D0 i = .lit (.string q.1.data.toList) ∧ D1 i = .lit (.string q.2.data.toList) := by
      intro i hi
      obtain ⟨_, _, h0, h1⟩ := hcell i hi
      obtain ⟨s0, e0, x0, _⟩ := DataW.trod_string Tryd.underlying9 h0
      obtain ⟨s1, e1, x1, _⟩ := DataW.trod_string Tryd.underlying9 h1
      simp only [Prod.mk.injEq] at x0 x1
      exact ⟨(s0, s1), by simpa using e0, by simpa using e1, x0.1, x1.1⟩
    have : Inhabited Fl := ⟨(⟨#[]⟩, ⟨#[]⟩)⟩
    obtain ⟨q, hq⟩ := choose_lt each
    have hlen : ((List.range len).map q).length = len := by simp
    simp only [Prod.mk.injEq] at hx
    obtain ⟨rfl, rfl⟩ := hx
    refine ⟨(List.range len).map q, ⟨some a, cap, by rw [hlen], by rw [hlen]; exact hl, fun k hk => ?_⟩, ?_, ?_⟩
    · have hk' : k < len := by rw [hlen] at hk; exact hk
      obtain ⟨c0, c1, _, _⟩ := hcell k (by omega)
      obtain ⟨z0, _, _, _⟩ := hcell 0 (by omega)
      obtain ⟨b, off, sp⟩ := a
      have hsp : sp = none := by
        have := World.cell?_spot z0
        simpa [Addr.add] using this
      subst hsp
      rw [Addr.add_lit] at c0 c1
      refine ⟨b, off, rfl, ?_, ?_⟩
      · rw [c0, (hq k (by omega)).1]; simp
      · rw [← Nat.add_assoc] at c1
        rw [c1, (hq k (by omega)).2.1]; simp
    · have := hw ((len + (m - len)) * Tryd.prog.bytesOf 67) (by simp [DataW.weights, Tryd.underlying59])
      rw [bytesParam] at this
      unfold reachBytes at this
      rw [hlen]; omega
    · intro f hf
      simp only [List.mem_map, List.mem_range] at hf
      obtain ⟨i, hi, rfl⟩ := hf
      have hd := (hq i (by omega)).2.2
      have key : ∀ n, n = (q i).1.data.toList.length ∨ n = (q i).2.data.toList.length → n ≤ reachBytes := fun n hn => by
        refine hw n ?_
        simp only [DataW.weights, Tryd.underlying59, List.mem_cons, List.mem_append]
        refine .inr (.inl (weightsAll_mem (d := .agg [D0 i, D1 i]) (List.mem_map.2 ⟨i, List.mem_range.2 hi, rfl⟩) ?_))
        rw [hd.1, hd.2]
        simp [DataW.weights, Tryd.underlying67, DataW.weightsEach]
        exact hn
      have k0 := key _ (.inl rfl)
      have k1 := key _ (.inr rfl)
      rw [size_list] at k0 k1
      unfold reachBytes at k0 k1
      omega

end Go.Proofs.YtiecpbhikkcmjaaDoor
