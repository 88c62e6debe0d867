import Derived.Test.YtkmkhfgoihfkjaaDoorZLT
namespace Go.Proofs.YtkmkhfgoihfkjaaDoor
open Go.RowKit

set_option maxHeartbeats 2000000 in
set_option maxRecDepth 100000 in
theorem turns_any (pg : ByteArray) (A : Option Addr) (cap : Nat) (xs : List ByteArray) (w : World) (hX : TL w (.slice A xs.length cap) xs) (hG : PGB w w.heap.size) (hp : pg.size ≤ 1000000000000000) (hn : xs.length ≤ 1000000000000000) (hzs : ∀ x ∈ xs, x.size ≤ 1000000000000000) :
    Calls Tryd.prog 3 #[.string pg, .slice A xs.length cap] w fun e w' => e = .returned (.bool true) ∧ Below w.heap.size w w' := by
  by_cases h1 : pg.size ≤ 1500
  · by_cases h2 : xs.length ≤ 60
    · exact turns_small pg A cap xs w hX hG h1 h2 hzs
    · have k1 : ¬ (1500 : Int) < (pg.size : Int) := by omega
      have k2 : (60 : Int) < (xs.length : Int) := by omega
      clear hX hG hzs
      go_enter Tryd.func3, Tryd.ntmps3
      go_wp2
      go_ret
      exact ⟨rfl, Below.refl _ _⟩
  · have k1 : (1500 : Int) < (pg.size : Int) := by omega
    clear hX hG hzs
    go_enter Tryd.func3, Tryd.ntmps3
    go_wp2
    go_ret
    exact ⟨rfl, Below.refl _ _⟩

end Go.Proofs.YtkmkhfgoihfkjaaDoor
