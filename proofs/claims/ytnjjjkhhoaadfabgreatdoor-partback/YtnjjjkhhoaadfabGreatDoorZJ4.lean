import Derived.Test.YtnjjjkhhoaadfabGreatDoorZ7
import Derived.Test.YtnjjjkhhoaadfabGreatDoorZ15
namespace Go.Proofs.YtnjjjkhhoaadfabGreatDoor
open Go.RowKit

/- A rune may not stand. -/
def wrongR (least : Nat) (others : List UInt8) (x : Nat) : Bool := decide (x < least) || decide (126 < x) || decide (0 ≤ Lib.indexByte others x.toUInt8)
/-- The bytes that may stand. -/
def fineC (least : Nat) (others : List UInt8) (c : UInt8) : Bool := !wrongR least others c.toNat

theorem decodeN_low (n b0 b1 b2 b3 : Nat) (h : b0 < 128) : Lib.decodeN n b0 b1 b2 b3 = (b0, 1) := by simp [Lib.decodeN, h]
theorem decodeN_high (n b0 b1 b2 b3 : Nat) (h : ¬ b0 < 128) : 128 ≤ (Lib.decodeN n b0 b1 b2 b3).1 := by
  unfold Lib.decodeN
  rw [if_neg h]
  repeat' split
  all_goals simp only
  all_goals omega
theorem get_bang (s : ByteArray) (k : Nat) (h : k < s.size) : s.get! k = s[k] := by
  have hk : k < s.data.size := h
  show s.data[k]! = _
  rw [getElem!_pos s.data k hk]; rfl
theorem decode_low (s : ByteArray) (k : Nat) (h : k < s.size) (hc : s[k].toNat < 128) : Utf8.decode s k = (s[k].toNat, 1) := by
  rw [Lib.decode_at, decodeN_low _ _ _ _ _ (by rw [get_bang s k h]; exact hc), get_bang s k h]
theorem decode_high (s : ByteArray) (k : Nat) (h : k < s.size) (hc : ¬ s[k].toNat < 128) : 128 ≤ (Utf8.decode s k).1 := by
  rw [Lib.decode_at]
  exact decodeN_high _ _ _ _ _ (by rw [get_bang s k h]; exact hc)
theorem idx_from (least : Nat) (others : List UInt8) (s : ByteArray) : ∀ f k : Nat, s.size ≤ k + f → k ≤ s.size → (s.data.toList.take k).all (fineC least others) = true →
    Lib.idxFuncFrom (wrongR least others) true s f k = if (s.data.toList.takeWhile (fineC least others)).length = s.size then -1 else ((s.data.toList.takeWhile (fineC least others)).length : Int) := by
  intro f
  induction f with
  | zero =>
    intro k hf hk ha
    have hks : ¬ k < s.size := by omega
    obtain ⟨e1, _⟩ := while_stop s k ha (fun h => absurd h hks)
    rw [Lib.idxFuncFrom_end _ _ _ _ _ hks, e1, List.length_take, size_list, if_pos (by omega)]
  | succ f ih =>
    intro k hf hk ha
    by_cases hks : k < s.size
    · by_cases hw : fineC least others s[k] = true
      · have hlow : s[k].toNat < 128 := by
          unfold fineC wrongR at hw
          simp only [Bool.not_eq_true', Bool.or_eq_false_iff, decide_eq_false_iff_not] at hw
          omega
        have hp : wrongR least others s[k].toNat = false := by unfold fineC at hw; simpa using hw
        unfold Lib.idxFuncFrom
        rw [if_pos hks, decode_low s k hks hlow]
        simp only
        rw [if_neg (by rw [hp]; decide)]
        exact ih (k + 1) (by omega) (by omega) (all_on s k hks ha hw)
      · have hw' : fineC least others s[k] = false := by simpa using hw
        have hp : wrongR least others (Utf8.decode s k).1 = true := by
          by_cases hlow : s[k].toNat < 128
          · rw [decode_low s k hks hlow]
            unfold fineC at hw'
            simpa using hw'
          · have := decode_high s k hks hlow
            unfold wrongR
            rw [decide_eq_true (show 126 < (Utf8.decode s k).1 by omega)]
            simp
        obtain ⟨e1, _⟩ := while_stop s k ha (fun _ => hw')
        unfold Lib.idxFuncFrom
        rw [if_pos hks, if_pos hp, e1, List.length_take, size_list, if_neg (by omega)]
        omega
    · obtain ⟨e1, _⟩ := while_stop s k ha (fun h => absurd h hks)
      rw [Lib.idxFuncFrom_end _ _ _ _ _ hks, e1, List.length_take, size_list, if_pos (by omega)]
theorem idx_fine (least : Nat) (others : List UInt8) (s : ByteArray) : Lib.idxFunc (wrongR least others) true s = if (s.data.toList.takeWhile (fineC least others)).length = s.size then -1 else ((s.data.toList.takeWhile (fineC least others)).length : Int) :=
  idx_from least others s s.size 0 (by omega) (Nat.zero_le _) rfl

theorem wrong_calls (args : Array Value) (w : World) : (callFunc 160 args).run Tryz.prog w = .ok (.enter 160 args) w := by simp [go_sem]

set_option maxHeartbeats 1600000 in
set_option maxRecDepth 100000 in
theorem wrong1_any (b1 b2 : Nat) (least : Nat) (others : ByteArray) (x : Nat) (w : World) (hx : x ≤ 1114111) (c1 : w.cell? ⟨b1, 0, none⟩ = some (.int .i32 (least : Int))) (c2 : w.cell? ⟨b2, 0, none⟩ = some (.string others)) :
    Calls Tryz.prog 160 #[.int .i32 (x : Int), .pointer (some ⟨b1, 0, none⟩), .pointer (some ⟨b2, 0, none⟩)] w fun e w' => e = .returned (.bool (wrongR least others.data.toList x)) ∧ w' = w := by
  obtain ⟨R, HR⟩ : ∃ R, Box (R = wrongR least others.data.toList x) := ⟨_, ⟨rfl⟩⟩
  rw [← HR.out]
  by_cases h1 : x < least
  · have z1 : (x : Int) < (least : Int) := by omega
    have HR' : Box (R = true) := ⟨by rw [HR.out, wrongR, decide_eq_true h1]; rfl⟩
    clear HR
    go_enter Tryz.func160, Tryz.ntmps160
    go_wp2
    go_ret
    exact ⟨ret_bool HR'.out.symm, rfl⟩
  · have z1 : ¬ (x : Int) < (least : Int) := by omega
    by_cases h2 : 126 < x
    · have z2 : (126 : Int) < (x : Int) := by omega
      have HR' : Box (R = true) := ⟨by rw [HR.out, wrongR, decide_eq_true h2]; simp⟩
      clear HR
      go_enter Tryz.func160, Tryz.ntmps160
      go_wp2
      go_ret
      exact ⟨ret_bool HR'.out.symm, rfl⟩
    · have z2 : ¬ (126 : Int) < (x : Int) := by omega
      have HR' : Box (R = decide (0 ≤ Lib.indexByte others.data.toList x.toUInt8)) := ⟨by rw [HR.out, wrongR, decide_eq_false h1, decide_eq_false h2]; rfl⟩
      have hc := Tryz.strings_ContainsRune_ascii others (x : Int) w (by omega) (by omega)
      rw [Int.toNat_natCast, ← HR'.out] at hc
      clear HR HR'
      go_enter Tryz.func160, Tryz.ntmps160
      go_wp2_with (go_at_call 142; refine hc.mono ?_; rintro e w' ⟨rfl, rfl⟩)
      go_ret
      exact ⟨rfl, rfl⟩

theorem pred_wrong (b1 b2 least : Nat) (others : ByteArray) (w : World) (h1 : b1 < w.heap.size) (h2 : b2 < w.heap.size) (c1 : w.cell? ⟨b1, 0, none⟩ = some (.int .i32 (least : Int))) (c2 : w.cell? ⟨b2, 0, none⟩ = some (.string others)) :
    PredGrows Tryz.prog 160 #[.pointer (some ⟨b1, 0, none⟩), .pointer (some ⟨b2, 0, none⟩)] (wrongR least others.data.toList) w := by
  intro W x hx hb
  refine (wrong1_any b1 b2 least others x W hx ((hb.cell (p := ⟨b1, 0, none⟩) h1).trans c1) ((hb.cell (p := ⟨b2, 0, none⟩) h2).trans c2)).mono ?_
  rintro e w' ⟨rfl, rfl⟩
  exact ⟨rfl, Below.refl _ _⟩

set_option maxHeartbeats 400000 in
theorem wrong_any (least : Nat) (others : ByteArray) (w : World) :
    Calls Tryz.prog 144 #[.int .i32 (least : Int), .string others] w fun e w' => e = .returned (.func (.func 160) #[] #[.pointer (some ⟨w.heap.size, 0, none⟩), .pointer (some ⟨w.heap.size + 1, 0, none⟩)]) ∧ w' = (w.alloc (.cells #[.int .i32 (least : Int)] 21)).alloc (.cells #[.string others] 9) := by
  go_enter Tryz.func144, Tryz.ntmps144
  go_wp2
  go_ret
  exact ⟨rfl, rfl⟩

set_option maxHeartbeats 400000 in
theorem idxf_any (g : Nat) (lb : Array Value) (eg : ∀ args w, (callFunc g args).run Tryz.prog w = .ok (.enter g args) w) (p : Nat → Bool) (s : ByteArray) (w : World) (hp : PredGrows Tryz.prog g lb p w) :
    Calls Tryz.prog 132 #[.string s, .func (.func g) #[] lb] w fun e w' => e = .returned (.int .i64 (Lib.idxFunc p true s)) ∧ Below w.heap.size w w' := by
  have hc := Tryz.strings_indexFunc g lb eg p true s w hp
  go_enter Tryz.func132, Tryz.ntmps132
  go_wp2_with (go_at_call 153; refine hc.mono ?_; rintro e w' ⟨rfl, hb⟩)
  go_ret
  exact ⟨rfl, hb⟩

theorem two_cells (w : World) (o1 o2 : Obj) (v1 v2 : Value) (t1 t2 : TypeId) (h1 : o1 = .cells #[v1] t1 (0, 0)) (h2 : o2 = .cells #[v2] t2 (0, 0)) : ((w.alloc o1).alloc o2).cell? ⟨w.heap.size, 0, none⟩ = some v1 ∧ ((w.alloc o1).alloc o2).cell? ⟨w.heap.size + 1, 0, none⟩ = some v2 := by
  subst h1
  subst h2
  constructor
  · simp only [World.cell?]
    rw [Below.heap_alloc _ _ _ (by simp), heap_alloc_new]
    rfl
  · simp only [World.cell?]
    have e : w.heap.size + 1 = (w.alloc (.cells #[v1] t1 (0, 0))).heap.size := by simp
    rw [e, heap_alloc_new]
    rfl
/-- 'strings.IndexFunc(s, wrong(least, others))', by its two calls. -/
theorem find_any (least : Nat) (others s : ByteArray) (w : World) (z : Int) (hz : z = if (s.data.toList.takeWhile (fineC least others.data.toList)).length = s.size then -1 else ((s.data.toList.takeWhile (fineC least others.data.toList)).length : Int)) :
    Calls Tryz.prog 132 #[.string s, .func (.func 160) #[] #[.pointer (some ⟨w.heap.size, 0, none⟩), .pointer (some ⟨w.heap.size + 1, 0, none⟩)]] ((w.alloc (.cells #[.int .i32 (least : Int)] 21)).alloc (.cells #[.string others] 9)) fun e w' => e = .returned (.int .i64 z) ∧ Below w.heap.size w w' := by
  refine (idxf_any 160 _ wrong_calls (wrongR least others.data.toList) s _ (pred_wrong _ _ least others _ (by simp; omega) (by simp) (two_cells w _ _ _ _ _ _ rfl rfl).1 (two_cells w _ _ _ _ _ _ rfl rfl).2)).mono ?_
  rintro e w' ⟨rfl, hb⟩
  rw [idx_fine, ← hz]
  exact ⟨rfl, (((Below.refl _ _).alloc (Nat.le_refl _) _).alloc (by simp) _).trans (hb.mono (by simp; omega))⟩

theorem fine_tok : fineC 33 specials = tokC := by
  funext c
  have key : ∀ n : Fin 256, fineC 33 specials (UInt8.ofNat n.val) = tokC (UInt8.ofNat n.val) := by decide +kernel
  have := key ⟨c.toNat, c.toNat_lt⟩
  simpa using this
theorem fine_in : fineC 32 [] = inC := by
  funext c
  have key : ∀ n : Fin 256, fineC 32 [] (UInt8.ofNat n.val) = inC (UInt8.ofNat n.val) := by decide +kernel
  have := key ⟨c.toNat, c.toNat_lt⟩
  simpa using this
/-- A byte that stands for itself in quotes. -/
def plainC (c : UInt8) : Bool := inC c && c != 34 && c != 92
theorem fine_plain : fineC 32 [34, 92] = plainC := by
  funext c
  have key : ∀ n : Fin 256, fineC 32 [34, 92] (UInt8.ofNat n.val) = plainC (UInt8.ofNat n.val) := by decide +kernel
  have := key ⟨c.toNat, c.toNat_lt⟩
  simpa using this

theorem while_len {p : UInt8 → Bool} (s : ByteArray) : (s.data.toList.takeWhile p).length ≤ s.size := by
  rw [← size_list]; exact (List.takeWhile_sublist p).length_le
theorem while_take {p : UInt8 → Bool} (s : ByteArray) : (s.extract 0 (s.data.toList.takeWhile p).length).data.toList = s.data.toList.takeWhile p ∧ (s.extract (s.data.toList.takeWhile p).length s.size).data.toList = s.data.toList.dropWhile p := by
  have e : s.data.toList.takeWhile p ++ s.data.toList.dropWhile p = s.data.toList := List.takeWhile_append_dropWhile
  rw [extract_list, extract_list]
  constructor
  · rw [List.drop_zero, Nat.sub_zero]
    conv => lhs; rhs; rw [← e]
    exact List.take_left
  · rw [List.take_of_length_le (by rw [List.length_drop, size_list]; exact Nat.le_refl _)]
    conv => lhs; rhs; rw [← e]
    exact List.drop_left

def KPost (T U : List UInt8) (w : World) (e : Ending) (w' : World) : Prop := ∃ t u, e = .returned (.tuple #[.string t, .string u]) ∧ t.data.toList = T ∧ u.data.toList = U ∧ Below w.heap.size w w'

set_option maxHeartbeats 1600000 in
set_option maxRecDepth 100000 in
theorem ktoken_any (s : ByteArray) (w : World) :
    Calls Tryz.prog 115 #[.string s] w fun e w' => KPost (s.data.toList.takeWhile tokC) (s.data.toList.dropWhile tokC) w e w' := by
  have hw := while_take (p := tokC) s
  have hn := while_len (p := tokC) s
  obtain ⟨T, HT⟩ : ∃ T, Box (T = s.data.toList.takeWhile tokC) := ⟨_, ⟨rfl⟩⟩
  obtain ⟨U, HU⟩ : ∃ U, Box (U = s.data.toList.dropWhile tokC) := ⟨_, ⟨rfl⟩⟩
  rw [← HT.out, ← HU.out] at hw ⊢
  rw [← HT.out] at hn
  obtain ⟨n, Hn⟩ : ∃ n, Box (n = T.length) := ⟨_, ⟨rfl⟩⟩
  rw [← Hn.out] at hw hn
  have HW := Box.mk hw
  obtain ⟨z, HZ⟩ : ∃ z : Int, Box (z = if n = s.size then -1 else (n : Int)) := ⟨_, ⟨rfl⟩⟩
  have HF : Box (z = if (s.data.toList.takeWhile (fineC 33 specials)).length = s.size then -1 else ((s.data.toList.takeWhile (fineC 33 specials)).length : Int)) := ⟨by rw [HZ.out, Hn.out, HT.out, fine_tok]⟩
  clear hw HT HU Hn
  by_cases hns : n = s.size
  · have hz : z = -1 := by rw [HZ.out, if_pos hns]
    rw [hz] at HF
    rw [hns] at HW
    clear HZ hz hns hn
    go_enter Tryz.func115, Tryz.ntmps115
    go_wp2_with (first | (go_at_call 144; refine (wrong_any 33 _ _).mono ?_; rintro e w1 ⟨rfl, rfl⟩) | (go_at_call 132; refine (find_any 33 ⟨#[40, 41, 60, 62, 64, 44, 59, 58, 92, 34, 47, 91, 93, 63, 61]⟩ s w _ HF.out).mono ?_; rintro e w2 ⟨rfl, hb2⟩))
    go_region
    go_wp2
    go_ret2
    refine ⟨_, _, rfl, ?_, ?_, by first | exact hb2 | exact hb2.drew⟩
    · have := HW.out.1
      simpa using this
    · have := HW.out.2
      simpa using this
  · have hz : z = (n : Int) := by rw [HZ.out, if_neg hns]
    rw [hz] at HF
    have hn' : (n : Int) < (s.size : Int) := by omega
    clear HZ hz hns
    go_enter Tryz.func115, Tryz.ntmps115
    go_wp2_with (first | (go_at_call 144; refine (wrong_any 33 _ _).mono ?_; rintro e w1 ⟨rfl, rfl⟩) | (go_at_call 132; refine (find_any 33 ⟨#[40, 41, 60, 62, 64, 44, 59, 58, 92, 34, 47, 91, 93, 63, 61]⟩ s w _ HF.out).mono ?_; rintro e w2 ⟨rfl, hb2⟩))
    go_region
    go_wp2
    go_ret2
    exact ⟨s.extract 0 n, s.extract n s.size, rfl, HW.out.1, HW.out.2, by first | exact hb2 | exact hb2.drew⟩

theorem tokS_split (l : List UInt8) : tokS l = (!(l.takeWhile tokC).isEmpty && (l.dropWhile tokC).isEmpty) := by
  unfold tokS
  cases l with
  | nil => rfl
  | cons c l =>
    by_cases hc : tokC c = true
    · have e1 : (c :: l).takeWhile tokC = c :: l.takeWhile tokC := by simp [hc]
      have e2 : (c :: l).dropWhile tokC = l.dropWhile tokC := by simp [hc]
      rw [e1, e2]
      have e3 : (l.dropWhile tokC).isEmpty = l.all tokC := by
        rw [Bool.eq_iff_iff, List.isEmpty_iff, List.all_eq_true]
        constructor
        · intro h d hd
          have := (List.takeWhile_append_dropWhile (p := tokC) (l := l))
          rw [h, List.append_nil] at this
          rw [← this] at hd
          exact (List.all_eq_true.1 (List.all_takeWhile)) d hd
        · intro h
          have := takeWhile_app (p := tokC) l [] h rfl
          rw [List.append_nil] at this
          exact this.2
      rw [e3]
      simp [hc]
    · have hc' : tokC c = false := by simpa using hc
      simp [hc']

set_option maxHeartbeats 800000 in
set_option maxRecDepth 100000 in
theorem kisToken_any (s : ByteArray) (w : World) :
    Calls Tryz.prog 114 #[.string s] w fun e w' => e = .returned (.bool (tokS s.data.toList)) ∧ Below w.heap.size w w' := by
  obtain ⟨R, HR⟩ : ∃ R, Box (R = tokS s.data.toList) := ⟨_, ⟨rfl⟩⟩
  rw [← HR.out]
  have HR' := Box.mk (tokS_split s.data.toList)
  go_enter Tryz.func114, Tryz.ntmps114
  go_wp2_with fail
  refine (ktoken_any s _).mono ?_
  rintro e w1 ⟨t, u, rfl, ht, hu, hb⟩
  have HE : Box (R = (!t.toList.isEmpty && u.toList.isEmpty)) := ⟨by rw [HR.out, HR'.out, ← ht, ← hu, ByteArray.toList_eq, ByteArray.toList_eq]⟩
  clear ht hu HR HR'
  cases h1 : t.toList.isEmpty
  · cases h2 : u.toList.isEmpty
    all_goals
      have HE' := Box.mk (HE.out.trans (by rw [h1, h2]))
      clear HE
      go_wp2
      go_ret
      exact ⟨ret_bool (by rw [HE'.out]; rfl), hb⟩
  · have HE' : Box (R = false) := ⟨by rw [HE.out, h1]; rfl⟩
    clear HE
    go_wp2
    go_ret
    exact ⟨ret_bool (by rw [HE'.out]), hb⟩

theorem in_all (s : ByteArray) : (s.data.toList.takeWhile inC).length = s.size ↔ s.data.toList.all inC = true := by
  have e := List.takeWhile_append_dropWhile (p := inC) (l := s.data.toList)
  constructor
  · intro h
    have h2 : s.data.toList.takeWhile inC = s.data.toList := by
      refine (List.takeWhile_prefix inC).eq_of_length ?_
      rw [h, size_list]
    rw [← h2]
    exact List.all_takeWhile
  · intro h
    have := (takeWhile_app (p := inC) s.data.toList [] (List.all_eq_true.1 h) rfl).1
    rw [List.append_nil] at this
    rw [this, size_list]

set_option maxHeartbeats 800000 in
set_option maxRecDepth 100000 in
theorem ksay_any (s : ByteArray) (w : World) :
    Calls Tryz.prog 130 #[.string s] w fun e w' => e = .returned (.bool (s.data.toList.all inC)) ∧ Below w.heap.size w w' := by
  obtain ⟨R, HR⟩ : ∃ R, Box (R = s.data.toList.all inC) := ⟨_, ⟨rfl⟩⟩
  rw [← HR.out]
  obtain ⟨z, HZ⟩ : ∃ z : Int, Box (z = if (s.data.toList.takeWhile (fineC 32 [])).length = s.size then -1 else ((s.data.toList.takeWhile (fineC 32 [])).length : Int)) := ⟨_, ⟨rfl⟩⟩
  have hz : (R = true ∧ z < 0) ∨ (R = false ∧ ¬ z < 0) := by
    rw [HR.out, HZ.out, fine_in]
    by_cases h : (s.data.toList.takeWhile inC).length = s.size
    · rw [if_pos h]
      exact .inl ⟨(in_all s).1 h, by omega⟩
    · rw [if_neg h]
      refine .inr ⟨?_, by omega⟩
      rw [← Bool.not_eq_true]
      exact fun h' => h ((in_all s).2 h')
  clear HR
  rcases hz with ⟨rfl, hz⟩ | ⟨rfl, hz⟩
  all_goals
    go_enter Tryz.func130, Tryz.ntmps130
    go_wp2_with (first | (go_at_call 144; refine (wrong_any 32 _ _).mono ?_; rintro e w1 ⟨rfl, rfl⟩) | (go_at_call 132; refine (find_any 32 ⟨#[]⟩ s w _ HZ.out).mono ?_; rintro e w2 ⟨rfl, hb2⟩))
    go_ret
    exact ⟨ret_bool (by simp [hz]), hb2⟩

set_option maxHeartbeats 800000 in
theorem ksmall_any (s : ByteArray) (w : World) (hs : s.size ≤ 1000000) :
    Calls Tryz.prog 129 #[.string s] w fun e w' => e = .returned (.bool (decide (smallS s.data.toList = s.data.toList))) ∧ Below w.heap.size w w' := by
  go_enter Tryz.func129, Tryz.ntmps129
  go_wp2_with fail
  refine (small_str s _ hs).mono ?_
  rintro e w1 ⟨t, rfl, ht, hb⟩
  have HT := Box.mk ht
  clear ht
  go_wp2
  go_ret
  refine ⟨ret_bool ?_, hb⟩
  rw [← HT.out, Bool.eq_iff_iff, decide_eq_true_iff, ByteArray.toList_eq, ByteArray.toList_eq, beq_iff_eq]

theorem lib_left (l : List UInt8) : Lib.trimLeftS l [32, 9] = dropB l := by
  unfold Lib.trimLeftS
  rw [contains_blk]
  rfl
set_option maxHeartbeats 800000 in
theorem kskip_any (s : ByteArray) (w : World) :
    Calls Tryz.prog 116 #[.string s] w fun e w' => ∃ t, e = .returned (.string t) ∧ t.data.toList = dropB s.data.toList ∧ Below w.heap.size w w' := by
  have hc := Tryz.strings_TrimLeft_laid s ⟨#[32, 9]⟩ w (by decide) (by
    intro j b hj
    match j, hj with
    | 0, hj => cases hj; decide
    | 1, hj => cases hj; decide
    | j + 2, hj => simp at hj)
  go_enter Tryz.func116, Tryz.ntmps116
  go_wp2_with (go_at_call 145; refine hc.mono ?_; rintro e w1 ⟨rfl, hb⟩)
  go_ret
  exact ⟨_, rfl, lib_left _, hb⟩

end Go.Proofs.YtnjjjkhhoaadfabGreatDoor
