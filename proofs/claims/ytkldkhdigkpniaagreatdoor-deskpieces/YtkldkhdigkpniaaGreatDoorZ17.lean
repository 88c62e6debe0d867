import Derived.Test.YtkldkhdigkpniaaGreatDoorZ7
import Derived.Test.YtkldkhdigkpniaaGreatDoorZ2
import Derived.Deep.LoopGhost
import Derived.Maps.AppendAt
namespace Go.Proofs.YtkldkhdigkpniaaGreatDoor
open Go.RowKit Go.Proofs.Tryz
theorem Xk(c:UInt8):((c.toNat:Int).toNat.toUInt8)=c:=by simp
theorem index_spec(s:ByteArray)(k:Nat)(h:k<s.size)(w:World)(z:Int)(hz:Lib.indexByte pU s[k]=z):Calls prog 170 #[.string ⟨#[40,41,60,62,64,44,59,58,92,34,47,91,93,63,61]⟩,.int .u8 (s[k].toNat:Int)] w fun e w'=>e=.returned (.int .i64 z)/\w'=w:=by
 refine(Tryz.strings_IndexByte _ _ w).mono ?_
 rintro e w' ⟨rfl,rfl⟩
 rw[Xk,<-hz]
 exact⟨rfl,rfl⟩
theorem Ih(s:ByteArray)(k:Nat)(h:k<s.size):(s.extract k (k+1)).data.toList=[s[k]]:=by
 rw[aB,List.drop_eq_getElem_cons (by rw[ae];exact h)]
 simp
 rfl
theorem wm{p:UInt8->Bool}(s:ByteArray)(k:Nat)(h:(s.data.toList.take k).all p=true)(hs:∀hk:k<s.size,p s[k]=false):s.data.toList.takeWhile p=s.data.toList.take k/\s.data.toList.dropWhile p=s.data.toList.drop k:=by
 have e:s.data.toList.take k++s.data.toList.drop k=s.data.toList:=List.take_append_drop _ _
 have:=bI (p:=p) (s.data.toList.take k) (s.data.toList.drop k) (List.all_eq_true.1 h) (by
  rw[List.head?_drop]
  by_cases hk:k<s.size
  ·rw[xU s k hk];simp[hs hk]
  ·rw[List.getElem?_eq_none (by rw[ae];omega)];rfl)
 rw[e]at this
 exact this
theorem wZ:bf []=none:=by unfold bf;rfl
theorem BR(r:aa):bf (34::r)=some ([],r):=by unfold bf;rw[if_pos rfl]
theorem zZ(d:UInt8)(r:aa):bf (92::d::r)=if inC d then (bf r).map fun q=>(d::q.1,q.2) else none:=by
 conv=>lhs;unfold bf
 rw[if_neg (by decide),if_pos rfl]
theorem zx:bf [92]=none:=by
 unfold bf
 rw[if_neg (by decide),if_pos rfl]
theorem yY(c:UInt8)(r:aa)(h1:c≠34)(h2:c≠92):bf (c::r)=if inC c then (bf r).map fun q=>(c::q.1,q.2) else none:=by
 conv=>lhs;unfold bf
 rw[if_neg h1,if_neg h2]
end Go.Proofs.YtkldkhdigkpniaaGreatDoor
