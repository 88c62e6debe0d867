import Derived.Test.YtnjjjkhhoaadfabGreatDoorZ10
namespace Go.Proofs.YtnjjjkhhoaadfabGreatDoor.Tx
open Go.RowKit Go.Proofs.Sx

def okByte (c : UInt8) : Prop := (32 ≤ c.toNat ∧ c.toNat ≤ 126) ∨ c = 9
def okLine (p : ByteArray) : Prop := p.size ≤ 76 ∧ Lib.hasSuffix p.data.toList [32] = false ∧ Lib.hasSuffix p.data.toList [9] = false ∧ ∀ k (h : k < p.size), okByte p[k]

theorem suffix_any (s : ByteArray) (c : UInt8) (w : World) (hs : s.size ≤ 100000) (h : Lib.hasSuffix s.data.toList [c] = false) :
    Calls Tryz.prog 41 #[.string s, .string ⟨#[c]⟩] w fun e w' => e = .returned (.bool false) ∧ w' = w := by
  refine (Tryz.strings_HasSuffix s ⟨#[c]⟩ w (by omega)).mono ?_
  rintro e w' ⟨rfl, rfl⟩
  exact ⟨ret_bool h, rfl⟩

end Go.Proofs.YtnjjjkhhoaadfabGreatDoor.Tx

namespace Go.Proofs.YtnjjjkhhoaadfabGreatDoor.Tx
open Go.RowKit Go.Proofs.Sx

theorem lettv_lett (n : Nat) (h : n < 64) : lettv (lett n) = (n : Int) := by
  have : ∀ n : Fin 64, lettv (lett n.val) = (n.val : Int) := by decide +kernel
  exact this ⟨n, h⟩
/-- A letter of base64, or the = that fills. -/
def b64 (c : UInt8) : Bool := letters.contains c || c == 61
theorem b64_lett (n : Nat) (h : n < 64) : b64 (lett n) = true ∧ (lett n == 61) = false := by
  have : ∀ n : Fin 64, b64 (lett n.val) = true ∧ (lett n.val == 61) = false := by decide +kernel
  exact this ⟨n, h⟩
theorem b64_skip (c : UInt8) (h : b64 c = true) : isSkip c = false ∧ c ≠ 13 ∧ 32 ≤ c.toNat ∧ c.toNat ≤ 126 ∧ c ≠ 32 ∧ c ≠ 9 := by
  have key : ∀ c ∈ letters ++ [61], isSkip c = false ∧ c ≠ 13 ∧ 32 ≤ c.toNat ∧ c.toNat ≤ 126 ∧ c ≠ 32 ∧ c ≠ 9 := by decide
  apply key
  unfold b64 at h
  simp only [Bool.or_eq_true, List.contains_iff_mem, beq_iff_eq] at h
  rcases h with h | h
  · exact List.mem_append_left _ h
  · subst h; exact List.mem_append_right _ (by simp)

theorem fourL_b64 (b : List UInt8) : ∀ c ∈ fourL b, b64 c = true := by
  have h61 : b64 61 = true := by decide
  intro c hc
  simp only [fourL, fourN, List.mem_cons, List.not_mem_nil, or_false] at hc
  rcases hc with rfl | rfl | rfl | rfl
  · exact (b64_lett _ (Nat.mod_lt _ (by omega))).1
  · exact (b64_lett _ (Nat.mod_lt _ (by omega))).1
  · split
    · exact (b64_lett _ (Nat.mod_lt _ (by omega))).1
    · exact h61
  · split
    · exact (b64_lett _ (Nat.mod_lt _ (by omega))).1
    · exact h61

theorem packTo_b64 (b : List UInt8) (k : Nat) : ∀ c ∈ packTo b k, b64 c = true := by
  induction k with
  | zero => intro c hc; cases hc
  | succ k ih =>
    intro c hc
    rw [packTo, List.mem_append] at hc
    rcases hc with hc | hc
    · exact ih c hc
    · exact fourL_b64 _ c hc

theorem solidL_append (a b : List UInt8) : solidL (a ++ b) = solidL a ++ solidL b := by unfold solidL; rw [List.filter_append]

theorem solid_inLines (l : List UInt8) (hl : ∀ c ∈ l, b64 c = true) (k : Nat) (hk : k ≤ l.length) : solidL (inLinesTo l k) = l.take k := by
  induction k with
  | zero => simp [inLinesTo, solidL]
  | succ k ih =>
    have hk' : k < l.length := by omega
    have hg : l.getD k 0 = l[k] := by rw [List.getD_eq_getElem?_getD, List.getElem?_eq_getElem hk']; rfl
    have hs : isSkip l[k] = false := (b64_skip _ (hl _ (List.getElem_mem hk'))).1
    have h2 : solidL (if (k + 1) % 76 = 0 ∨ k + 1 = l.length then [13, 10] else []) = [] := by split <;> rfl
    rw [inLinesTo, solidL_append, solidL_append, ih (by omega), h2, hg, List.append_nil, take_snocL l k hk']
    congr 1
    simp [solidL, hs]

theorem solid_pack (b : List UInt8) : solidL (packS b) = packTo b ((b.length + 2) / 3) := by
  unfold packS
  rw [solid_inLines _ (packTo_b64 _ _) _ (Nat.le_refl _), List.take_length]

theorem jstep (o : List UInt8) (N C n : Nat) (hn : n < 64) : joinStep (o, N, C) (lett n) =
    if 8 ≤ C + 6 then some (o ++ [UInt8.ofNat ((N * 64 + n) / 2 ^ (C + 6 - 8))], (N * 64 + n) % 2 ^ (C + 6 - 8), C + 6 - 8) else some (o, N * 64 + n, C + 6) := by
  unfold joinStep
  have h := lettv_lett n hn
  rw [h, if_neg (by omega)]
  simp only [Int.toNat_natCast]

theorem jstep0 (o : List UInt8) (N n : Nat) (hn : n < 64) : joinStep (o, N, 0) (lett n) = some (o, N * 64 + n, 6) := by rw [jstep o N 0 n hn]; rfl
theorem jstep6 (o : List UInt8) (N n : Nat) (hn : n < 64) : joinStep (o, N, 6) (lett n) = some (o ++ [UInt8.ofNat ((N * 64 + n) / 16)], (N * 64 + n) % 16, 4) := by rw [jstep o N 6 n hn]; rfl
theorem jstep4 (o : List UInt8) (N n : Nat) (hn : n < 64) : joinStep (o, N, 4) (lett n) = some (o ++ [UInt8.ofNat ((N * 64 + n) / 4)], (N * 64 + n) % 4, 2) := by rw [jstep o N 4 n hn]; rfl
theorem jstep2 (o : List UInt8) (N n : Nat) (hn : n < 64) : joinStep (o, N, 2) (lett n) = some (o ++ [UInt8.ofNat ((N * 64 + n) / 1)], (N * 64 + n) % 1, 0) := by rw [jstep o N 2 n hn]; rfl

def jf (q : Option (List UInt8 × Nat × Nat)) (c : UInt8) : Option (List UInt8 × Nat × Nat) := q.bind fun q => joinStep q c
theorem jf_some (q : List UInt8 × Nat × Nat) (c : UInt8) : jf (some q) c = joinStep q c := rfl

theorem ofNat_eq (n : Nat) (x : UInt8) (h : n = x.toNat) : UInt8.ofNat n = x := by subst h; simp

/-- Four letters that stand for three bytes. -/
theorem join_four (o : List UInt8) (x y z : UInt8) : (fourL [x, y, z]).foldl jf (some (o, 0, 0)) = some (o ++ [x, y, z], 0, 0) := by
  have hx := x.toNat_lt
  have hy := y.toNat_lt
  have hz := z.toNat_lt
  obtain ⟨N, hN⟩ : ∃ N, N = (x.toNat * 256 + y.toNat) * 256 + z.toNat := ⟨_, rfl⟩
  have e : fourL [x, y, z] = [lett (N / 262144 % 64), lett (N / 4096 % 64), lett (N / 64 % 64), lett (N % 64)] := by rw [hN]; rfl
  rw [e]
  simp only [List.foldl_cons, List.foldl_nil, jf_some]
  rw [jstep0 _ _ _ (Nat.mod_lt _ (by omega)), jf_some, jstep6 _ _ _ (Nat.mod_lt _ (by omega)), jf_some, jstep4 _ _ _ (Nat.mod_lt _ (by omega)), jf_some, jstep2 _ _ _ (Nat.mod_lt _ (by omega))]
  rw [ofNat_eq _ x (by omega), ofNat_eq _ y (by omega), ofNat_eq _ z (by omega)]
  simp
  omega

theorem join_three (o : List UInt8) (x y : UInt8) : ((fourL [x, y]).take 3).foldl jf (some (o, 0, 0)) = some (o ++ [x, y], 0, 2) := by
  have hx := x.toNat_lt
  have hy := y.toNat_lt
  obtain ⟨N, hN⟩ : ∃ N, N = bitsOf [x, y] := ⟨_, rfl⟩
  have hM : bitsOf [x, y] = (x.toNat * 256 + y.toNat) * 256 := by simp [bitsOf]
  have e : (fourL [x, y]).take 3 = [lett (N / 262144 % 64), lett (N / 4096 % 64), lett (N / 64 % 64)] := by rw [hN]; rfl
  rw [e]
  simp only [List.foldl_cons, List.foldl_nil, jf_some]
  rw [jstep0 _ _ _ (Nat.mod_lt _ (by omega)), jf_some, jstep6 _ _ _ (Nat.mod_lt _ (by omega)), jf_some, jstep4 _ _ _ (Nat.mod_lt _ (by omega))]
  rw [ofNat_eq _ x (by omega), ofNat_eq _ y (by omega)]
  simp
  omega

theorem join_two (o : List UInt8) (x : UInt8) : ((fourL [x]).take 2).foldl jf (some (o, 0, 0)) = some (o ++ [x], 0, 4) := by
  have hx := x.toNat_lt
  obtain ⟨N, hN⟩ : ∃ N, N = bitsOf [x] := ⟨_, rfl⟩
  have hM : bitsOf [x] = x.toNat * 256 * 256 := by simp [bitsOf]
  have e : (fourL [x]).take 2 = [lett (N / 262144 % 64), lett (N / 4096 % 64)] := by rw [hN]; rfl
  rw [e]
  simp only [List.foldl_cons, List.foldl_nil, jf_some]
  rw [jstep0 _ _ _ (Nat.mod_lt _ (by omega)), jf_some, jstep6 _ _ _ (Nat.mod_lt _ (by omega))]
  rw [ofNat_eq _ x (by omega)]
  simp
  omega

theorem joinAll_jf (l : List UInt8) : joinAll l = l.foldl jf (some ([], 0, 0)) := rfl

theorem take_three (b : List UInt8) (k : Nat) (h : 3 * k + 3 ≤ b.length) : ∃ x y z, (b.drop (3 * k)).take 3 = [x, y, z] ∧ b.take (3 * (k + 1)) = b.take (3 * k) ++ [x, y, z] := by
  have hl : ((b.drop (3 * k)).take 3).length = 3 := by rw [List.length_take, List.length_drop]; omega
  match hm : (b.drop (3 * k)).take 3, hl with
  | [x, y, z], _ => 
    refine ⟨x, y, z, rfl, ?_⟩
    rw [show 3 * (k + 1) = 3 * k + 3 from by omega, List.take_add, hm]

theorem join_pack (b : List UInt8) (k : Nat) (h : 3 * k ≤ b.length) : joinAll (packTo b k) = some (b.take (3 * k), 0, 0) := by
  induction k with
  | zero => rfl
  | succ k ih =>
    obtain ⟨x, y, z, h1, h2⟩ := take_three b k (by omega)
    rw [joinAll_jf, packTo, List.foldl_append, ← joinAll_jf, ih (by omega), h1, join_four, h2]

theorem getD_append_right (a l : List UInt8) (i : Nat) : (a ++ l).getD (a.length + i) 0 = l.getD i 0 := by
  rw [List.getD_eq_getElem?_getD, List.getD_eq_getElem?_getD, List.getElem?_append_right (by omega), Nat.add_sub_cancel_left]

theorem fillN_append (a l : List UInt8) (h : 2 ≤ l.length) : fillN (a ++ l) = fillN l := by
  unfold fillN
  rw [List.length_append, show a.length + l.length - 1 = a.length + (l.length - 1) from by omega, show a.length + l.length - 2 = a.length + (l.length - 2) from by omega, getD_append_right, getD_append_right]
  simp only [show (1 ≤ a.length + l.length) = True from by simp; omega, show (2 ≤ a.length + l.length) = True from by simp; omega, show (1 ≤ l.length) = True from by simp; omega, show (2 ≤ l.length) = True from by simp; omega]

theorem fillN_four (c0 c1 c2 c3 : UInt8) : fillN [c0, c1, c2, c3] = if c3 = 61 then if c2 = 61 then 2 else 1 else 0 := by
  unfold fillN
  simp

theorem lett_ne (n : Nat) (h : n < 64) : lett n ≠ 61 := by
  have := (b64_lett n h).2
  simpa using this

theorem unpack_solid (s b : List UInt8) (h : solidL s = packTo b ((b.length + 2) / 3)) : unpackS s = some b := by
  unfold unpackS
  rw [h]
  have hl := packTo_length b ((b.length + 2) / 3)
  rw [hl, if_pos (by omega)]
  obtain ⟨k, hk⟩ : ∃ k, k = b.length / 3 := ⟨_, rfl⟩
  have hr : b.length % 3 = 0 ∨ b.length % 3 = 1 ∨ b.length % 3 = 2 := by omega
  rcases hr with hr | hr | hr
  · have hm : (b.length + 2) / 3 = k := by omega
    rw [hm]
    have hf : fillN (packTo b k) = 0 := by
      cases k with
      | zero => rfl
      | succ k =>
        obtain ⟨x, y, z, h1, _⟩ := take_three b k (by omega)
        rw [packTo, fillN_append _ _ (by rw [fourL_length]; omega), h1]
        rw [show fourL [x, y, z] = [lett _, lett _, lett _, lett _] from rfl, fillN_four, if_neg (lett_ne _ (Nat.mod_lt _ (by omega)))]
    rw [hf, List.take_of_length_le (by rw [packTo_length]; omega)]
    unfold joinedS
    rw [join_pack b k (by omega), List.take_of_length_le (by omega)]
    rfl
  · have hm : (b.length + 2) / 3 = k + 1 := by omega
    have hd : ∃ x, (b.drop (3 * k)).take 3 = [x] ∧ b = b.take (3 * k) ++ [x] := by
      have hlen : (b.drop (3 * k)).length = 1 := by rw [List.length_drop]; omega
      match hx : b.drop (3 * k), hlen with
      | [x], _ => exact ⟨x, rfl, by rw [← hx, List.take_append_drop]⟩
    obtain ⟨x, h1, h2⟩ := hd
    rw [hm, packTo, fillN_append _ _ (by rw [fourL_length]; omega), h1]
    rw [show fillN (fourL [x]) = 2 from by rw [show fourL [x] = [lett _, lett _, 61, 61] from rfl, fillN_four]; rfl]
    rw [List.take_append, List.take_of_length_le (by rw [packTo_length]; omega), packTo_length, show 4 * (k + 1) - 2 - 4 * k = 2 from by omega]
    unfold joinedS
    rw [joinAll_jf, List.foldl_append, ← joinAll_jf, join_pack b k (by omega), join_two]
    show some (b.take (3 * k) ++ [x]) = some b
    rw [← h2]
  · have hm : (b.length + 2) / 3 = k + 1 := by omega
    have hd : ∃ x y, (b.drop (3 * k)).take 3 = [x, y] ∧ b = b.take (3 * k) ++ [x, y] := by
      have hlen : (b.drop (3 * k)).length = 2 := by rw [List.length_drop]; omega
      match hx : b.drop (3 * k), hlen with
      | [x, y], _ => exact ⟨x, y, rfl, by rw [← hx, List.take_append_drop]⟩
    obtain ⟨x, y, h1, h2⟩ := hd
    rw [hm, packTo, fillN_append _ _ (by rw [fourL_length]; omega), h1]
    rw [show fillN (fourL [x, y]) = 1 from by rw [show fourL [x, y] = [lett _, lett _, lett _, 61] from rfl, fillN_four, if_pos rfl, if_neg (lett_ne _ (Nat.mod_lt _ (by omega)))]]
    rw [List.take_append, List.take_of_length_le (by rw [packTo_length]; omega), packTo_length, show 4 * (k + 1) - 1 - 4 * k = 3 from by omega]
    unfold joinedS
    rw [joinAll_jf, List.foldl_append, ← joinAll_jf, join_pack b k (by omega), join_three]
    show some (b.take (3 * k) ++ [x, y]) = some b
    rw [← h2]

theorem unpack_pack (b : List UInt8) : unpackS (packS b) = some b := unpack_solid _ _ (solid_pack b)

theorem unpack_cut (b : List UInt8) (k : Nat) : unpackS ((packS b).take k ++ [32, 13, 10, 9] ++ (packS b).drop k) = some b := by
  apply unpack_solid
  rw [← solid_pack b, solidL_append, solidL_append, show solidL [32, 13, 10, 9] = [] from rfl, List.append_nil, ← solidL_append, List.take_append_drop]

end Go.Proofs.YtnjjjkhhoaadfabGreatDoor.Tx

