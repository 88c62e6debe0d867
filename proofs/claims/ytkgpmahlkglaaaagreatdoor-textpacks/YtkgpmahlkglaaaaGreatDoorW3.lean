import Derived.Test.YtkgpmahlkglaaaaGreatDoorW2
namespace Go.Proofs.YtkgpmahlkglaaaaGreatDoor
open Go.RowKit

theorem wrap_i64_small (n : Int) (h0 : 0 ≤ n) (h : n < 9223372036854775808) : IntKind.i64.wrap n = n := by
  simp [IntKind.wrap, IntKind.bits, IntKind.signed]; omega

theorem or_i64 (i : Nat) (a b : Int) (ha : 0 ≤ a) (hb : 0 ≤ b) (hm : a % (2 ^ i : Nat) = 0) (hb2 : b < (2 ^ i : Nat)) (h1 : a + b < 9223372036854775808) : bits .or .i64 a b = a + b := by
  obtain ⟨m, rfl⟩ := Int.eq_ofNat_of_zero_le ha
  obtain ⟨n, rfl⟩ := Int.eq_ofNat_of_zero_le hb
  have e := nat_join i m n (by omega) (by omega)
  show IntKind.i64.wrap ((BitVec.ofInt 64 (m : Int) ||| BitVec.ofInt 64 (n : Int)).toNat : Int) = _
  rw [BitVec.toNat_or, ofInt_u64 m (by omega), ofInt_u64 n (by omega), e, wrap_i64_small _ (by omega) (by omega)]
  omega

theorem and_i64 (i : Nat) (a : Int) (ha : 0 ≤ a) (h1 : a < 9223372036854775808) (hi : i ≤ 62) : bits .and .i64 a ((2 ^ i - 1 : Nat) : Int) = a % (2 ^ i : Nat) := by
  obtain ⟨m, rfl⟩ := Int.eq_ofNat_of_zero_le ha
  have hp : 2 ^ i ≤ 2 ^ 62 := Nat.pow_le_pow_right (by omega) hi
  have e : m &&& (2 ^ i - 1) = m % 2 ^ i := Nat.and_two_pow_sub_one_eq_mod m i
  have hlt : m % 2 ^ i ≤ m := Nat.mod_le _ _
  show IntKind.i64.wrap ((BitVec.ofInt 64 (m : Int) &&& BitVec.ofInt 64 ((2 ^ i - 1 : Nat) : Int)).toNat : Int) = _
  rw [BitVec.toNat_and, ofInt_u64 m (by omega), ofInt_u64 (2 ^ i - 1) (by omega), e, wrap_i64_small _ (by omega) (by omega)]
  omega

theorem and63 (a : Int) (ha : 0 ≤ a) (h1 : a < 9223372036854775808) : bits .and .i64 a 63 = a % 64 := by simpa using and_i64 6 a ha h1 (by omega)

def letters : List UInt8 := [65, 66, 67, 68, 69, 70, 71, 72, 73, 74, 75, 76, 77, 78, 79, 80, 81, 82, 83, 84, 85, 86, 87, 88, 89, 90, 97, 98, 99, 100, 101, 102, 103, 104, 105, 106, 107, 108, 109, 110, 111, 112, 113, 114, 115, 116, 117, 118, 119, 120, 121, 122, 48, 49, 50, 51, 52, 53, 54, 55, 56, 57, 43, 47]
def lett (n : Nat) : UInt8 := letters.getD n 0
def lettB : ByteArray := ByteArray.mk #[65, 66, 67, 68, 69, 70, 71, 72, 73, 74, 75, 76, 77, 78, 79, 80, 81, 82, 83, 84, 85, 86, 87, 88, 89, 90, 97, 98, 99, 100, 101, 102, 103, 104, 105, 106, 107, 108, 109, 110, 111, 112, 113, 114, 115, 116, 117, 118, 119, 120, 121, 122, 48, 49, 50, 51, 52, 53, 54, 55, 56, 57, 43, 47]

theorem lett_at (i : Nat) (h : i < (ByteArray.mk #[65, 66, 67, 68, 69, 70, 71, 72, 73, 74, 75, 76, 77, 78, 79, 80, 81, 82, 83, 84, 85, 86, 87, 88, 89, 90, 97, 98, 99, 100, 101, 102, 103, 104, 105, 106, 107, 108, 109, 110, 111, 112, 113, 114, 115, 116, 117, 118, 119, 120, 121, 122, 48, 49, 50, 51, 52, 53, 54, 55, 56, 57, 43, 47]).size) : (ByteArray.mk #[65, 66, 67, 68, 69, 70, 71, 72, 73, 74, 75, 76, 77, 78, 79, 80, 81, 82, 83, 84, 85, 86, 87, 88, 89, 90, 97, 98, 99, 100, 101, 102, 103, 104, 105, 106, 107, 108, 109, 110, 111, 112, 113, 114, 115, 116, 117, 118, 119, 120, 121, 122, 48, 49, 50, 51, 52, 53, 54, 55, 56, 57, 43, 47])[i] = lett i := by
  have h' : i < 64 := h
  have : ∀ i : Fin 64, (ByteArray.mk #[65, 66, 67, 68, 69, 70, 71, 72, 73, 74, 75, 76, 77, 78, 79, 80, 81, 82, 83, 84, 85, 86, 87, 88, 89, 90, 97, 98, 99, 100, 101, 102, 103, 104, 105, 106, 107, 108, 109, 110, 111, 112, 113, 114, 115, 116, 117, 118, 119, 120, 121, 122, 48, 49, 50, 51, 52, 53, 54, 55, 56, 57, 43, 47])[i.val]'(i.isLt) = lett i.val := by decide
  exact this ⟨i, h'⟩

/-- Four letters of the bits N, n of them letters. -/
def fourN (N n : Nat) : List UInt8 := [lett (N / 262144 % 64), lett (N / 4096 % 64), if 2 ≤ n then lett (N / 64 % 64) else 61, if 3 ≤ n then lett (N % 64) else 61]
def bitsOf (b : List UInt8) : Nat := ((b.getD 0 0).toNat * 256 + (b.getD 1 0).toNat) * 256 + (b.getD 2 0).toNat
/-- One, two or three bytes as four letters. -/
def fourL (b : List UInt8) : List UInt8 := fourN (bitsOf b) b.length
theorem fourL_length (b : List UInt8) : (fourL b).length = 4 := rfl
def aggL (l : List UInt8) : Value := .agg (cs l).toArray

set_option maxHeartbeats 1600000 in
set_option maxRecDepth 100000 in
theorem four1 (x : UInt8) (w : World) :
    Calls Tryz.prog 26 #[.string ⟨#[x]⟩] w fun e w' => e = .returned (aggL (fourL [x])) ∧ Below w.heap.size w w' := by
  have hx : (x.toNat : Int) < 256 := by have := x.toNat_lt; omega
  have p0 : ∀ h, (ByteArray.mk #[x])[0]'h = x := fun _ => rfl
  have o1 : bits .or .i64 0 (x.toNat : Int) = (x.toNat : Int) := by simpa using or_i64 8 0 (x.toNat : Int) (by omega) (by omega) (by omega) (by simpa using hx) (by omega)
  go_enter Tryz.func26, Tryz.ntmps26
  go_wp2
  refine wp_loop_rounds 4 ?_
  rw [rounds_succ]
  go_wp2
  rw [rounds_succ]
  go_wp2
  rw [rounds_succ]
  go_wp2
  rw [rounds_succ]
  go_wp2
  clear o1 p0
  have hN1 : 0 ≤ (x.toNat : Int) * 256 * 256 := by omega
  have hN2 : (x.toNat : Int) * 256 * 256 < 16777216 := by omega
  have hN3 : (x.toNat : Int) * 256 * 256 = (bitsOf [x] : Nat) := by simp [bitsOf]
  have HN : Hid ((x.toNat : Int) * 256 * 256 = (bitsOf [x] : Nat)) := hN3
  clear hN3
  generalize (x.toNat : Int) * 256 * 256 = N at hN1 hN2 HN ⊢
  clear hx
  have a0 := and63 (N / 262144) (by omega) (by omega)
  have a1 := and63 (N / 4096) (by omega) (by omega)
  have a2 := and63 (N / 64) (by omega) (by omega)
  have a3 := and63 N (by omega) (by omega)
  have b0 : N / 262144 % 64 < 64 := by omega
  have b1 : N / 4096 % 64 < 64 := by omega
  have b2 : N / 64 % 64 < 64 := by omega
  have b3 : N % 64 < 64 := by omega
  have c0 : 0 ≤ N / 262144 % 64 := by omega
  have c1 : 0 ≤ N / 4096 % 64 := by omega
  have c2 : 0 ≤ N / 64 % 64 := by omega
  have c3 : 0 ≤ N % 64 := by omega
  refine wp_loop_rounds 5 ?_
  rw [rounds_succ]
  go_wp2
  simp only [lett_at]
  rw [rounds_succ]
  go_wp2
  simp only [lett_at]
  rw [rounds_succ]
  go_wp2
  rw [rounds_succ]
  go_wp2
  rw [rounds_succ]
  go_wp2
  have hN := HN.out
  subst hN
  have e0 : (((bitsOf [x] : Nat) : Int) / 262144 % 64).toNat = bitsOf [x] / 262144 % 64 := by omega
  have e1 : (((bitsOf [x] : Nat) : Int) / 4096 % 64).toNat = bitsOf [x] / 4096 % 64 := by omega
  simp only [e0, e1]
  exact bodyPost_ret (v := aggL (fourL [x])) (by simp [results, Tryz.results26, go_sem, aggL, fourL, fourN, cs]) rfl ⟨rfl, ((Below.refl _ _).alloc (Nat.le_refl _) _).alloc (by simp) _⟩

set_option maxHeartbeats 1600000 in
set_option maxRecDepth 100000 in
theorem four2 (x y : UInt8) (w : World) :
    Calls Tryz.prog 26 #[.string ⟨#[x, y]⟩] w fun e w' => e = .returned (aggL (fourL [x, y])) ∧ Below w.heap.size w w' := by
  have hx : (x.toNat : Int) < 256 := by have := x.toNat_lt; omega
  have hy : (y.toNat : Int) < 256 := by have := y.toNat_lt; omega
  have p0 : ∀ h, (ByteArray.mk #[x, y])[0]'h = x := fun _ => rfl
  have p1 : ∀ h, (ByteArray.mk #[x, y])[1]'h = y := fun _ => rfl
  have o1 : bits .or .i64 0 (x.toNat : Int) = (x.toNat : Int) := by simpa using or_i64 8 0 (x.toNat : Int) (by omega) (by omega) (by omega) (by simpa using hx) (by omega)
  have o2 : bits .or .i64 ((x.toNat : Int) * 256) (y.toNat : Int) = (x.toNat : Int) * 256 + (y.toNat : Int) := or_i64 8 _ _ (by omega) (by omega) (by omega) (by simpa using hy) (by omega)
  go_enter Tryz.func26, Tryz.ntmps26
  go_wp2
  refine wp_loop_rounds 4 ?_
  rw [rounds_succ]
  go_wp2
  rw [rounds_succ]
  go_wp2
  rw [rounds_succ]
  go_wp2
  rw [rounds_succ]
  go_wp2
  clear o1 o2 p0 p1
  have hN1 : 0 ≤ ((x.toNat : Int) * 256 + (y.toNat : Int)) * 256 := by omega
  have hN2 : ((x.toNat : Int) * 256 + (y.toNat : Int)) * 256 < 16777216 := by omega
  have hN3 : ((x.toNat : Int) * 256 + (y.toNat : Int)) * 256 = (bitsOf [x, y] : Nat) := by simp [bitsOf]
  have HN : Hid (((x.toNat : Int) * 256 + (y.toNat : Int)) * 256 = (bitsOf [x, y] : Nat)) := hN3
  clear hN3
  generalize ((x.toNat : Int) * 256 + (y.toNat : Int)) * 256 = N at hN1 hN2 HN ⊢
  clear hx hy
  have a0 := and63 (N / 262144) (by omega) (by omega)
  have a1 := and63 (N / 4096) (by omega) (by omega)
  have a2 := and63 (N / 64) (by omega) (by omega)
  have a3 := and63 N (by omega) (by omega)
  have b0 : N / 262144 % 64 < 64 := by omega
  have b1 : N / 4096 % 64 < 64 := by omega
  have b2 : N / 64 % 64 < 64 := by omega
  have b3 : N % 64 < 64 := by omega
  have c0 : 0 ≤ N / 262144 % 64 := by omega
  have c1 : 0 ≤ N / 4096 % 64 := by omega
  have c2 : 0 ≤ N / 64 % 64 := by omega
  have c3 : 0 ≤ N % 64 := by omega
  refine wp_loop_rounds 5 ?_
  rw [rounds_succ]
  go_wp2
  simp only [lett_at]
  rw [rounds_succ]
  go_wp2
  simp only [lett_at]
  rw [rounds_succ]
  go_wp2
  simp only [lett_at]
  rw [rounds_succ]
  go_wp2
  rw [rounds_succ]
  go_wp2
  have hN := HN.out
  subst hN
  have e0 : (((bitsOf [x, y] : Nat) : Int) / 262144 % 64).toNat = bitsOf [x, y] / 262144 % 64 := by omega
  have e1 : (((bitsOf [x, y] : Nat) : Int) / 4096 % 64).toNat = bitsOf [x, y] / 4096 % 64 := by omega
  have e2 : (((bitsOf [x, y] : Nat) : Int) / 64 % 64).toNat = bitsOf [x, y] / 64 % 64 := by omega
  simp only [e0, e1, e2]
  exact bodyPost_ret (v := aggL (fourL [x, y])) (by simp [results, Tryz.results26, go_sem, aggL, fourL, fourN, cs]) rfl ⟨rfl, ((Below.refl _ _).alloc (Nat.le_refl _) _).alloc (by simp) _⟩

set_option maxHeartbeats 1600000 in
set_option maxRecDepth 100000 in
theorem four3 (x y z : UInt8) (w : World) :
    Calls Tryz.prog 26 #[.string ⟨#[x, y, z]⟩] w fun e w' => e = .returned (aggL (fourL [x, y, z])) ∧ Below w.heap.size w w' := by
  have hx : (x.toNat : Int) < 256 := by have := x.toNat_lt; omega
  have hy : (y.toNat : Int) < 256 := by have := y.toNat_lt; omega
  have hz : (z.toNat : Int) < 256 := by have := z.toNat_lt; omega
  have p0 : ∀ h, (ByteArray.mk #[x, y, z])[0]'h = x := fun _ => rfl
  have p1 : ∀ h, (ByteArray.mk #[x, y, z])[1]'h = y := fun _ => rfl
  have p2 : ∀ h, (ByteArray.mk #[x, y, z])[2]'h = z := fun _ => rfl
  have o1 : bits .or .i64 0 (x.toNat : Int) = (x.toNat : Int) := by simpa using or_i64 8 0 (x.toNat : Int) (by omega) (by omega) (by omega) (by simpa using hx) (by omega)
  have o2 : bits .or .i64 ((x.toNat : Int) * 256) (y.toNat : Int) = (x.toNat : Int) * 256 + (y.toNat : Int) := or_i64 8 _ _ (by omega) (by omega) (by omega) (by simpa using hy) (by omega)
  have o3 : bits .or .i64 (((x.toNat : Int) * 256 + (y.toNat : Int)) * 256) (z.toNat : Int) = ((x.toNat : Int) * 256 + (y.toNat : Int)) * 256 + (z.toNat : Int) := or_i64 8 _ _ (by omega) (by omega) (by omega) (by simpa using hz) (by omega)
  go_enter Tryz.func26, Tryz.ntmps26
  go_wp2
  refine wp_loop_rounds 4 ?_
  rw [rounds_succ]
  go_wp2
  rw [rounds_succ]
  go_wp2
  rw [rounds_succ]
  go_wp2
  rw [rounds_succ]
  go_wp2
  clear o1 o2 o3 p0 p1 p2
  have hN1 : 0 ≤ ((x.toNat : Int) * 256 + (y.toNat : Int)) * 256 + (z.toNat : Int) := by omega
  have hN2 : ((x.toNat : Int) * 256 + (y.toNat : Int)) * 256 + (z.toNat : Int) < 16777216 := by omega
  have hN3 : ((x.toNat : Int) * 256 + (y.toNat : Int)) * 256 + (z.toNat : Int) = (bitsOf [x, y, z] : Nat) := by simp [bitsOf]
  have HN : Hid (((x.toNat : Int) * 256 + (y.toNat : Int)) * 256 + (z.toNat : Int) = (bitsOf [x, y, z] : Nat)) := hN3
  clear hN3
  generalize ((x.toNat : Int) * 256 + (y.toNat : Int)) * 256 + (z.toNat : Int) = N at hN1 hN2 HN ⊢
  clear hx hy hz
  have a0 := and63 (N / 262144) (by omega) (by omega)
  have a1 := and63 (N / 4096) (by omega) (by omega)
  have a2 := and63 (N / 64) (by omega) (by omega)
  have a3 := and63 N (by omega) (by omega)
  have b0 : N / 262144 % 64 < 64 := by omega
  have b1 : N / 4096 % 64 < 64 := by omega
  have b2 : N / 64 % 64 < 64 := by omega
  have b3 : N % 64 < 64 := by omega
  have c0 : 0 ≤ N / 262144 % 64 := by omega
  have c1 : 0 ≤ N / 4096 % 64 := by omega
  have c2 : 0 ≤ N / 64 % 64 := by omega
  have c3 : 0 ≤ N % 64 := by omega
  refine wp_loop_rounds 5 ?_
  rw [rounds_succ]
  go_wp2
  simp only [lett_at]
  rw [rounds_succ]
  go_wp2
  simp only [lett_at]
  rw [rounds_succ]
  go_wp2
  simp only [lett_at]
  rw [rounds_succ]
  go_wp2
  simp only [lett_at]
  rw [rounds_succ]
  go_wp2
  have hN := HN.out
  subst hN
  have e0 : (((bitsOf [x, y, z] : Nat) : Int) / 262144 % 64).toNat = bitsOf [x, y, z] / 262144 % 64 := by omega
  have e1 : (((bitsOf [x, y, z] : Nat) : Int) / 4096 % 64).toNat = bitsOf [x, y, z] / 4096 % 64 := by omega
  have e2 : (((bitsOf [x, y, z] : Nat) : Int) / 64 % 64).toNat = bitsOf [x, y, z] / 64 % 64 := by omega
  have e3 : (((bitsOf [x, y, z] : Nat) : Int) % 64).toNat = bitsOf [x, y, z] % 64 := by omega
  simp only [e0, e1, e2, e3]
  exact bodyPost_ret (v := aggL (fourL [x, y, z])) (by simp [results, Tryz.results26, go_sem, aggL, fourL, fourN, cs]) rfl ⟨rfl, ((Below.refl _ _).alloc (Nat.le_refl _) _).alloc (by simp) _⟩

theorem four_any (b : ByteArray) (w : World) (h0 : 0 < b.size) (h3 : b.size ≤ 3) :
    Calls Tryz.prog 26 #[.string b] w fun e w' => e = .returned (aggL (fourL b.data.toList)) ∧ Below w.heap.size w w' := by
  obtain ⟨⟨l⟩⟩ := b
  match l, h0, h3 with
  | [], h0, _ => exact absurd h0 (by decide)
  | [x], _, _ => exact four1 x w
  | [x, y], _, _ => exact four2 x y w
  | [x, y, z], _, _ => exact four3 x y z w
  | x :: y :: z :: t :: r, _, h3 => exact absurd h3 (by simp [ByteArray.size])

end Go.Proofs.YtkgpmahlkglaaaaGreatDoor
