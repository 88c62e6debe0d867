import Derived.Test.YtiecpbhikkcmjaaDoorJV
import Derived.Test.YtiecpbhikkcmjaaDoorJ7
import Derived.Test.YtiecpbhikkcmjaaDoorC1
namespace Go.Proofs.YtiecpbhikkcmjaaDoor
open Go.RowKit

theorem all_good (L : List Fl) (h : L.all goodF = true) : (L.map pb2).all goodP = true := by
  rw [List.all_map]
  exact h
theorem good_all (L : List Fl) (h : (L.map pb2).all goodP = true) : L.all goodF = true := by
  rw [List.all_map] at h
  exact h
theorem pb2_inj2 : ∀ {L M : List Fl}, L.map pb2 = M.map pb2 → L = M
  | [], [], _ => rfl
  | [], _ :: _, h => by simp at h
  | _ :: _, [], h => by simp at h
  | f :: L, g :: M, h => by
    simp only [List.map_cons, List.cons.injEq] at h
    have e : f = g := by
      have h1 : f.1 = g.1 := bytes_eq (congrArg Prod.fst h.1)
      have h2 : f.2 = g.2 := bytes_eq (congrArg Prod.snd h.1)
      cases f; cases g; simp_all
    rw [e, pb2_inj2 h.2]

/-- What is written is read as the same. -/
theorem read_written (t m : ByteArray) (L : List Fl) (w : World) (hs : t.size ≤ 100000) (hm : Max w) (ht : t.data.toList = writeK m.data.toList (L.map pb2)) (hg : goodM m.data.toList = true) (hL : L.all goodF = true) :
    Calls Tryd.prog 36 #[.string t] w fun e w' => ∃ v, e = .returned (.tuple #[.string m, v, .nilIface]) ∧ FL w' v L ∧ Below w.heap.size w w' := by
  refine (kread_any t w hs hm).mono ?_
  rintro e w' ⟨hp, hb⟩
  have hr : readK t.data.toList = some (m.data.toList, L.map pb2) := by
    rw [ht]
    refine kind_back _ _ ?_
    unfold goodK
    rw [hg, all_good L hL]; rfl
  rw [hr] at hp
  obtain ⟨m2, v2, L2, rfl, hm2, hown, hL2, _⟩ := hp
  obtain rfl : m2 = m := bytes_eq hm2
  obtain rfl : L2 = L := pb2_inj2 hL2
  exact ⟨v2, rfl, hown.fl, hb⟩

def toldText : ByteArray := ⟨#[84, 101, 120, 116, 47, 72, 84, 77, 76, 59, 32, 97, 61, 34, 98, 32, 99, 34, 59, 32, 68, 61, 101]⟩
theorem told_reads : readK toldText.data.toList = some ([116, 101, 120, 116, 47, 104, 116, 109, 108], [([97], [98, 32, 99]), ([100], [101])]) := by decide +kernel

set_option maxHeartbeats 1600000 in
set_option maxRecDepth 100000 in
theorem told_any (w : World) (hm : Max w) : Calls Tryd.prog 43 #[] w fun e w' => e = .returned (.bool true) ∧ Below w.heap.size w w' := by
  have hc : Calls Tryd.prog 36 #[.string toldText] w fun e w' => ∃ v, e = .returned (.tuple #[.string ⟨#[116, 101, 120, 116, 47, 104, 116, 109, 108]⟩, v, .nilIface]) ∧ FL w' v [(⟨#[97]⟩, ⟨#[98, 32, 99]⟩), (⟨#[100]⟩, ⟨#[101]⟩)] ∧ Below w.heap.size w w' := by
    refine (kread_any toldText w (by decide) hm).mono ?_
    rintro e w' ⟨hp, hb⟩
    rw [told_reads] at hp
    obtain ⟨m2, v2, L2, rfl, hm2, hown, hL2, _⟩ := hp
    obtain rfl : m2 = ⟨#[116, 101, 120, 116, 47, 104, 116, 109, 108]⟩ := bytes_eq hm2
    obtain rfl : L2 = [(⟨#[97]⟩, ⟨#[98, 32, 99]⟩), (⟨#[100]⟩, ⟨#[101]⟩)] := pb2_inj2 hL2
    exact ⟨v2, rfl, hown.fl, hb⟩
  clear hm
  go_enter Tryd.func43, Tryd.ntmps43
  go_wp2_with fail
  refine hc.mono ?_
  rintro e w1 ⟨v, rfl, ⟨A, cap, rfl, hcap, hF⟩, hb⟩
  obtain ⟨b, off, rfl, x0, x1⟩ := hF 0 (by decide)
  obtain ⟨b2, off2, hA, y0, y1⟩ := hF 1 (by decide)
  simp only [Option.some.injEq, Addr.mk.injEq, and_true] at hA
  obtain ⟨rfl, rfl⟩ := hA
  have hcap' : 2 ≤ cap := hcap
  have x1' : w1.cell? ⟨b, off + 1, none⟩ = some (.string ⟨#[98, 32, 99]⟩) := by simpa using x1
  have y0' : w1.cell? ⟨b, off + 2, none⟩ = some (.string ⟨#[100]⟩) := by simpa using y0
  clear hF hc x0 x1 y0 y1
  go_wp2
  go_ret
  exact ⟨rfl, hb⟩

end Go.Proofs.YtiecpbhikkcmjaaDoor
