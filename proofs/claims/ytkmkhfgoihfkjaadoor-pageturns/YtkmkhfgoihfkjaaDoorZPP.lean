/-
  Proved here: at every page and every list of values, binderykeep.PageTurns returns true (a page whose links are replaced leads just to what it was given, as often as before, and what stands between is as it was), and its arguments read behind the call as they read before. No condition beyond the given row's own cells.
-/
import Derived.Test.YtkmkhfgoihfkjaaDoorZLU
import Derived.Test.YtkmkhfgoihfkjaaDoorZPL
import Derived.Test.YtkmkhfgoihfkjaaDoorCards
import Derived.Test.YtkmkhfgoihfkjaaDoorTie
import Derived.Deep.DeepHandedRow
import Derived.Shelf.Vars
namespace Go.Proofs.YtkmkhfgoihfkjaaDoor
open Go.ChangeShapes Go.WideShapes Go.ChangeAt Go.RowKit
open Go.ChangeMaps (open_string shut_string)

theorem maxOf {W : World} (h : W.ShapedOpen Tryd.prog) : ∃ m, W.cell? ⟨0, 0, none⟩ = some (.int .i64 m) :=
  cell_of_shapedOpen_int (t := 3) (zero := #[.int .i64 0]) h (of_decide_eq_true (by kernel_rfl)) (by kernel_rfl) rfl (by kernel_rfl) (by kernel_rfl) Tryd.underlying3
theorem laid_mem {P : Program} {w : World} : ∀ (laid : List (String × DataW Unit)) (ps : List MemPlace), DataW.LaidVars P w laid ps → ∀ n d, (n, d) ∈ laid → ∃ g t cs fuel p, P.globalNamed n = some g ∧ (P.globals[g]?).map (·.type) = some t ∧ w.var? P n = some cs ∧ DataW.trod (fun _ => ()) P w 0 (fun _ => true) false fuel t cs.toList = some (d, p)
  | [], _, _, n, d, h => by cases h
  | (m, e) :: r, ps, hL, n, d, h => by
    obtain ⟨g, t, cs, fuel, p, q, h1, h2, h3, h4, h5, _⟩ := hL
    rcases List.mem_cons.1 h with h | h
    · cases h; exact ⟨g, t, cs, fuel, p, h1, h2, h3, h4⟩
    · exact laid_mem r q h5 n d h
theorem vars_of {W : World} (h : laidMetH Tryd.prog Rows.pageTurnsRow.laid W) (hsh : W.ShapedOpen Tryd.prog) : PGB W W.heap.size := by
  have h' : laidMet Tryd.prog Rows.pageTurnsRow.laid W := h
  obtain ⟨ps, hL, _⟩ := h'
  have hL' : DataW.LaidVars Tryd.prog W [("bindery/page.leading", Rows.laid_bindery_page_leading), ("bindery/page.verbatim", Rows.laid_bindery_page_verbatim), ("bindery/page.words", Rows.laid_bindery_page_words)] ps := hL
  have hle : Leads W := by
    obtain ⟨g, t, cs, fuel, p, hg, ht, hvar, hd⟩ := laid_mem _ ps hL' "bindery/page.leading" Rows.laid_bindery_page_leading (.head _)
    obtain rfl := Option.some.inj (pgL.symm.trans hg)
    obtain rfl := Option.some.inj (pgLType.symm.trans ht)
    exact leads_at hvar hd
  have hve : Verbs W := by
    obtain ⟨g, t, cs, fuel, p, hg, ht, hvar, hd⟩ := laid_mem _ ps hL' "bindery/page.verbatim" Rows.laid_bindery_page_verbatim (.tail _ (.head _))
    obtain rfl := Option.some.inj (pgV.symm.trans hg)
    obtain rfl := Option.some.inj (pgVType.symm.trans ht)
    exact verbs_at hvar hd
  have hwo : Words W := by
    obtain ⟨g, t, cs, fuel, p, hg, ht, hvar, hd⟩ := laid_mem _ ps hL' "bindery/page.words" Rows.laid_bindery_page_words (.tail _ (.tail _ (.head _)))
    obtain rfl := Option.some.inj (pgW.symm.trans hg)
    obtain rfl := Option.some.inj (pgWType.symm.trans ht)
    exact words_at hvar hd
  obtain ⟨m, hm⟩ := maxOf hsh
  have k0 := World.block_lt_of_cell? W _ hwo.c0
  have k1 := World.block_lt_of_cell? W _ hle.c0
  have k2 := World.block_lt_of_cell? W _ hve.c0
  have k3 := World.block_lt_of_cell? W _ hm
  exact ⟨⟨hwo, hle, hve, ⟨m, hm⟩, Nat.ne_of_lt k0, Nat.ne_of_lt k1, Nat.ne_of_lt k2, Nat.ne_of_lt k3⟩, k0, k1, k2, k3⟩

theorem bytesStr : Tryd.prog.bytesOf 9 = 16 := by kernel_rfl
set_option maxRecDepth 100000 in
/-- A list of texts that came in. -/
theorem open_texts {H : Type} {enc : TypeId × Value → H} {W : World} {base : Nat} {v : Value} {d : DataW H} {p : List MemPlace} (hv : Value.okWide Tryd.prog W .any base 22 v) (h : DataW.Trod enc Tryd.prog W 0 (fun _ => true) true 22 v d p)
    (hw : ∀ n ∈ d.weights Tryd.prog 22, n ≤ reachBytes) : ∃ (A : Option Addr) (cap : Nat) (xs : List ByteArray), v = .slice A xs.length cap ∧ TL W (.slice A xs.length cap) xs ∧ xs.length ≤ 1000000000000000 ∧ ∀ x ∈ xs, x.size ≤ 1000000000000000 := by
  obtain ⟨a0, l0, c0, rfl⟩ := okWide_slice Tryd.underlying22 hv
  obtain ⟨fuel, h⟩ := h
  rcases open_strings Tryd.underlying22 Tryd.underlying9 pcellsS h with ⟨hc, hx⟩ | ⟨a, len, cap, ss, hc, hb, hl, hm, hz, hx, hcell, hsz⟩
  · have hc' : Value.slice a0 l0 c0 = .slice none 0 0 := by simpa [Value.cells] using hc
    rw [hc']
    exact ⟨none, 0, [], rfl, ⟨_, _, rfl, Nat.le_refl _, fun k hk => absurd hk (by simp)⟩, by simp, fun x hx => by cases hx⟩
  · have hc' : Value.slice a0 l0 c0 = .slice (some a) len cap := by simpa [Value.cells] using hc
    rw [hc']
    have hls : len ≤ ss.length := by rw [hz]; split <;> omega
    have hlen : (ss.take len).length = len := by rw [List.length_take]; omega
    simp only [Prod.mk.injEq] at hx
    obtain ⟨rfl, rfl⟩ := hx
    refine ⟨some a, cap, ss.take len, by rw [hlen], ⟨some a, cap, rfl, by rw [hlen]; exact hl, fun k hk => ?_⟩, ?_, ?_⟩
    · have hk' : k < len := by rw [hlen] at hk; exact hk
      have c1 := hcell k (by omega)
      have z0 := hcell 0 (by omega)
      obtain ⟨b, off, sp⟩ := a
      have hsp : sp = none := by
        have := World.cell?_spot z0
        simpa [Addr.add] using this
      subst hsp
      rw [Addr.add_lit] at c1
      refine ⟨b, off, rfl, ?_⟩
      rw [c1, List.getElem_take]
      congr 2
      rw [List.getD_eq_getElem?_getD, List.getElem?_eq_getElem (by omega)]
      rfl
    · have := hw (((strs (H := H) (ss.take len)).length + (strs (H := H) (ss.drop len)).length) * Tryd.prog.bytesOf 9) (by simp [DataW.weights, Tryd.underlying22])
      rw [bytesStr] at this
      unfold reachBytes at this
      have e : (strs (H := H) (ss.take len)).length = len := by unfold strs; rw [List.length_map, hlen]
      rw [e] at this
      rw [hlen]; omega
    · intro x hxm
      have := hw x.data.toList.length (by
        simp only [DataW.weights, Tryd.underlying22, List.mem_cons, List.mem_append]
        refine .inr (.inl (weightsAll_mem (d := .lit (.string x.data.toList)) (List.mem_map.2 ⟨x, hxm, rfl⟩) ?_))
        simp [DataW.weights])
      rw [size_list] at this
      unfold reachBytes at this
      omega

set_option maxRecDepth 100000 in
theorem contract (H : Type) (enc : TypeId × Value → H) (W : World) (base : Nat) (args : Array Value) (ds gs : List (DataW H)) (before : List MemPlace)
    (hval : ∀ (j : Nat) t v, Tryd.f3.params[j]? = some t → args[j]? = some v → Value.okWide Tryd.prog W .any base t v)
    (hW : DataW.Whole enc Tryd.prog Tryd.f3.params.toList Rows.pageTurnsSpec.vars false W args.toList ds gs before)
    (hZ : (DataW.weightsEach Tryd.prog (Tryd.f3.params.toList ++ (OpenSpec.ofChange Rows.pageTurnsSpec).bare.plain.varTypes Tryd.prog) (ds ++ gs)).all (· ≤ reachBytes) = true) (hL : laidMetH Tryd.prog Rows.pageTurnsRow.laid W) (hsh : W.ShapedOpen Tryd.prog) :
    Calls Tryd.prog 3 args W fun e W' => ∃ v, e = .returned v ∧ Rows.pageTurnsSpec.post enc Tryd.prog Tryd.f3 false true false false W args v W' := by
  have hW' := hW
  have hlt := hW.lt
  obtain ⟨p, q, hA0, hV, rfl, hfz, hnd⟩ := hW
  have hA : DataW.TrodAll enc Tryd.prog W 0 (fun _ => true) true Tryd.f3.params.toList args.toList ds p := hA0
  rw [Tryd.params3] at hA hval hZ
  obtain ⟨v0, v1, d0, d1, p0, p1, rfl, rfl, rfl, h0, h1⟩ := trodAll_two hA
  obtain ⟨rfl, rfl⟩ := trodVars_none hV
  obtain ⟨s, rfl, rfl, rfl, ws⟩ := open_string Tryd.underlying9 (hval 0 9 v0 rfl rfl) h0
  have hz1 : ∀ n ∈ d1.weights Tryd.prog 22, n ≤ reachBytes := fun n hn => by
    have := List.all_eq_true.1 hZ n (DataW.weights_mem_each (j := 1) (t := 22) (d := d1) rfl rfl n hn)
    simpa using this
  have hz0 : s.data.toList.length ≤ reachBytes := sized_string hZ (j := 0) (t := 9) rfl rfl
  obtain ⟨A, cap, xs, rfl, hX, hxl, hxs⟩ := open_texts (hval 1 22 v1 rfl rfl) h1 hz1
  clear hA0
  simp only [List.append_nil] at hW'
  rw [size_list] at hz0
  unfold reachBytes at hz0
  refine (turns_any s A cap xs W hX (vars_of hL hsh) (by omega) hxl hxs).mono fun e W' ⟨he, hb⟩ => ?_
  subst he
  refine ⟨_, rfl, ?_⟩
  refine ⟨_, _, _, [], _, [], hW', trodAll_mk1 (shut_bool Tryd.underlying4 _), trodAll_mk2 (shut_string Tryd.underlying9 ws) (hb.trod (by kernel_rfl) (by kernel_rfl) (of_decide_eq_true (by kernel_rfl)) h1 (fun x hx => hlt x (by simp [hx]))), rfl, hb.frame _, fun h => by cases h⟩

theorem shaped0 (os : Os) : (((World.holding Tryd.prog os ⟨#[], #[], []⟩ : World).layVars Tryd.prog Rows.pageTurnsRow.laid).forCall (fun _ _ => 0) ⟨#[], #[.string ⟨#[]⟩, .slice none 0 0], []⟩).Shaped Tryd.prog :=
  World.shaped_of_ZipB (by kernel_rfl) (by kernel_rfl)
theorem laid0 (os : Os) : laidMetH Tryd.prog Rows.pageTurnsRow.laid (((World.holding Tryd.prog os ⟨#[], #[], []⟩ : World).layVars Tryd.prog Rows.pageTurnsRow.laid).forCall (fun _ _ => 0) ⟨#[], #[.string ⟨#[]⟩, .slice none 0 0], []⟩).memory :=
  show laidMet _ _ _ from laidMet_on _ _ _ (by kernel_rfl) (by kernel_rfl)
theorem ok0 (os : Os) : Input.okWideB Tryd.prog (((World.holding Tryd.prog os ⟨#[], #[], []⟩ : World).layVars Tryd.prog Rows.pageTurnsRow.laid).forCall (fun _ _ => 0) ⟨#[], #[.string ⟨#[]⟩, .slice none 0 0], []⟩) 3 ⟨#[], #[.string ⟨#[]⟩, .slice none 0 0], []⟩ = true := by kernel_rfl
theorem reads (os : Os) {H : Type} (enc : TypeId × Value → H) : ∃ places, DataW.whole enc Tryd.prog (((World.holding Tryd.prog os ⟨#[], #[], []⟩ : World).layVars Tryd.prog Rows.pageTurnsRow.laid).forCall (fun _ _ => 0) ⟨#[], #[.string ⟨#[]⟩, .slice none 0 0], []⟩).memory Tryd.f3.params.toList Rows.pageTurnsSpec.vars false #[Value.string ⟨#[]⟩, Value.slice none 0 0].toList 8 = some ([.lit (.string []), .nil], [], places) :=
  ⟨[], by kernel_rfl⟩

set_option maxRecDepth 100000 in
theorem lifted (os : Os) (started : os.Started) (H : Type) (enc : TypeId × Value → H) (F : Stop.Interp) :
    ReturnsInHanded {} Tryd.checked os 3 .any ((OpenSpec.ofChange Rows.pageTurnsSpec).preRow enc Tryd.prog Tryd.f3 Rows.pageTurnsRow.domain false Rows.pageTurnsRow.laid) (((OpenSpec.ofChange Rows.pageTurnsSpec).at F).post enc Tryd.prog Tryd.f3 false true false false) := by
  obtain ⟨places, hx⟩ := reads os enc
  refine returnsInHanded_of_row (C := Tryd.checked) (s := OpenSpec.ofChange Rows.pageTurnsSpec) own started (by kernel_rfl) Tryd.func3
    ⟨_, fun _ _ => 0, ⟨#[], #[.string ⟨#[]⟩, .slice none 0 0], []⟩, World.layVars_os _ _ _, shaped0 os, (Input.okWide_of_okWideB (base := 0) (ok0 os)).1, (Input.okWide_of_okWideB (ok0 os)).2, OpenSpec.preRow_of_cond 8 hx (by kernel_rfl) (fun k hk => by cases hk) (by kernel_rfl) (laid0 os), by
      simp only [Assume.holds]
      exact ⟨by simp, by simp, fun _ => Modest.zero, by simp, by simp⟩⟩ ?_
  intro W base args ds gs before hval hW _ _ hZ hL hsh _
  exact contract H enc W base args ds gs before hval hW hZ hL hsh

theorem said : Rows.PageTurnsSaid :=
  OpenClaim.holds_of_cond 3 Tryd.f3 rfl rfl rfl rfl rfl rfl rfl ⟨rfl, rfl, rfl, rfl, rfl⟩ rfl rfl rfl rfl rfl (by kernel_rfl) Tryd.func3 (by kernel_rfl)
    (of_decide_eq_true (by kernel_rfl)) (by unfold Func.isWrapper; first | (rw [if_pos (by decide +kernel)]; kernel_rfl) | (rw [if_neg (by decide +kernel)]; exact ⟨rfl, rfl⟩))
    (fun os started H enc _ F => by rw [OpenClaim.pre_eq_preRow]; exact lifted os started H enc F)

/-- No parameter wants a stand-in; whether the program's own looks are on: what the card asks. -/
theorem plain (f : FuncId) (fn : Func) (hf : Tryd.pinned.checked.prog.funcNamed Rows.pageTurnsRow.func = some f) (hfn : Tryd.pinned.checked.prog.funcs[f]? = some fn) :
    false = Tryd.pinned.checked.prog.looks [] ∧ ∀ (j : Nat) t, fn.params[j]? = some t → Tryd.pinned.checked.prog.wantsStandIn t = false := by
  obtain rfl : f = 3 := Option.some.inj ((show Tryd.prog.funcNamed Rows.pageTurnsRow.func = some 3 by kernel_rfl).symm.trans hf) |>.symm
  obtain rfl : fn = Tryd.f3 := (Option.some.inj (Tryd.func3.symm.trans hfn)).symm
  refine ⟨by kernel_rfl, fun j t ht => ?_⟩
  rw [Tryd.params3] at ht
  have ht' := Array.mem_of_getElem? ht
  simp only [List.mem_toArray, List.mem_cons, List.not_mem_nil, or_false] at ht'
  rcases ht' with rfl | rfl
  · exact (show Tryd.prog.wantsStandIn 9 = false by kernel_rfl)
  · exact (show Tryd.prog.wantsStandIn 22 = false by kernel_rfl)

/-- THE CARD: elsewhere, and only there, at every page and every list of values. -/
theorem card : Rows.PageTurnsCardSaid :=
  Claim7.holds_tied_plain_at .later [] _ _ _ _ said (fun _ h => by cases h) (by kernel_rfl) (fun _ h => by cases h) pageTurns_row_tie rfl ⟨rfl, rfl⟩ (by kernel_rfl) rfl plain (by kernel_rfl)

end Go.Proofs.YtkmkhfgoihfkjaaDoor
