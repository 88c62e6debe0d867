import Derived.Test.YtknhacbfddggpaaGreatDoorZ4
import Derived.Test.YtknhacbfddggpaaGreatDoorZ7
import Derived.Test.YtknhacbfddggpaaGreatDoorZ2
import Derived.Deep.LoopGhost
import Derived.Maps.AppendAt
namespace Go.Proofs.YtknhacbfddggpaaGreatDoor
open Go.RowKit
theorem u8_back (c:UInt8):((c.toNat:Int).toNat.toUInt8) = c:=by simp
theorem index_spec (s:ByteArray) (k:Nat) (h:k < s.size) (w:World) (z:Int) (hz:Lib.indexByte specials s[k] = z):Calls Tryz.prog 132 #[.string ⟨#[40,41,60,62,64,44,59,58,92,34,47,91,93,63,61]⟩,.int .u8 (s[k].toNat:Int)] w fun e w'=>e = .returned (.int .i64 z)∧w' = w:=by
 refine (Tryz.strings_IndexByte _ _ w).mono ?_
 rintro e w' ⟨rfl,rfl⟩
 rw [u8_back,← hz]
 exact ⟨rfl,rfl⟩
end Go.Proofs.YtknhacbfddggpaaGreatDoor
namespace Go.Proofs.YtknhacbfddggpaaGreatDoor
open Go.RowKit
theorem extract_one (s:ByteArray) (k:Nat) (h:k < s.size):(s.extract k (k+1)).data.toList = [s[k]]:=by
 rw [extract_list,List.drop_eq_getElem_cons (by rw [size_list]; exact h)]
 simp
 rfl
theorem while_stop {p:UInt8 → Bool} (s:ByteArray) (k:Nat) (h:(s.data.toList.take k).all p = true) (hs:∀ hk:k < s.size,p s[k] = false):s.data.toList.takeWhile p = s.data.toList.take k∧s.data.toList.dropWhile p = s.data.toList.drop k:=by
 have e:s.data.toList.take k++s.data.toList.drop k = s.data.toList:=List.take_append_drop _ _
 have:=takeWhile_app (p:=p) (s.data.toList.take k) (s.data.toList.drop k) (List.all_eq_true.1 h) (by
  rw [List.head?_drop]
  by_cases hk:k < s.size
  ·rw [getL s k hk]; simp [hs hk]
  ·rw [List.getElem?_eq_none (by rw [size_list]; omega)]; rfl)
 rw [e] at this
 exact this
theorem quoted_nil:quotedS [] = none:=by unfold quotedS; rfl
theorem quoted_end (r:List UInt8):quotedS (34 :: r) = some ([],r):=by unfold quotedS; rw [if_pos rfl]
theorem quoted_esc1 (d:UInt8) (r:List UInt8):quotedS (92 :: d :: r) = if inC d then (quotedS r).map fun q=>(d :: q.1,q.2) else none:=by
 conv=>lhs; unfold quotedS
 rw [if_neg (by decide),if_pos rfl]
theorem quoted_esc0:quotedS [92] = none:=by
 unfold quotedS
 rw [if_neg (by decide),if_pos rfl]
theorem quoted_on (c:UInt8) (r:List UInt8) (h1:c ≠ 34) (h2:c ≠ 92):quotedS (c :: r) = if inC c then (quotedS r).map fun q=>(c :: q.1,q.2) else none:=by
 conv=>lhs; unfold quotedS
 rw [if_neg h1,if_neg h2]
end Go.Proofs.YtknhacbfddggpaaGreatDoor
namespace Go.Proofs.YtknhacbfddggpaaGreatDoor
open Go.RowKit
end Go.Proofs.YtknhacbfddggpaaGreatDoor
