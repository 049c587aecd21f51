import Derived.Test.YtbdnhccjlggpkaaD
namespace Go.Proofs.Ytbdnhccjlggpkaa
open Go.RowKit
/-- The list with the first byte's sign struck. -/
def unsgn (l : List UInt8) : List UInt8 := (l.headD 0 &&& 127) :: l.tail
theorem and127 (c : UInt8) : (c &&& 127).toNat = c.toNat % 128 := by
  rw [UInt8.toNat_and]
  exact Nat.and_two_pow_sub_one_eq_mod c.toNat 7
theorem and127i (c : UInt8) : wrap64 (bits .and .u8 (c.toNat : Int) 127) = ((c &&& 127).toNat : Int) := by
  have h := u8_and_nat c.toNat 127 c.toNat_lt (by decide)
  have e : (c &&& 127).toNat = c.toNat &&& 127 := UInt8.toNat_and ..
  rw [e]
  have hlt : c.toNat &&& 127 < 256 := Nat.lt_of_le_of_lt Nat.and_le_left c.toNat_lt
  exact (congrArg wrap64 h).trans (IntWalk.wrap64_in _ ⟨by omega, by omega⟩)
theorem wd_head (c : UInt8) (l : List UInt8) : wd (c :: l) = c.toNat * 256 ^ l.length + wd l := by
  have := wd_cons l (0 * 256 + c.toNat)
  rw [Nat.zero_mul, Nat.zero_add] at this
  unfold wd at this ⊢
  rw [List.foldl_cons, Nat.zero_mul, Nat.zero_add]; exact this
theorem wd_unsgn (l : List UInt8) (h : l.length = 8) : wd (unsgn l) = wd l % 9223372036854775808 ∧ wd l / 9223372036854775808 = (l.headD 0).toNat / 128 := by
  cases l with
  | nil => cases h
  | cons c t =>
    have ht : t.length = 7 := by simpa using h
    have hw := wd_lt t
    unfold unsgn
    rw [List.headD_cons, List.tail_cons, wd_head, wd_head, and127]
    rw [ht] at hw ⊢
    have hc := c.toNat_lt
    omega
theorem or_i64_nat (a b : Nat) (ha : a < 9223372036854775808) (hb : b < 9223372036854775808) :
    bits .or .i64 (a : Int) (b : Int) = ((a ||| b : Nat) : Int) := by
  have hx : a ||| b < 2 ^ 63 := Nat.or_lt_two_pow (by omega) (by omega)
  have h1 : (BitVec.ofInt 64 (a : Int)).toNat = a := by
    rw [BitVec.ofInt_natCast, BitVec.toNat_ofNat]; exact Nat.mod_eq_of_lt (by omega)
  have h2 : (BitVec.ofInt 64 (b : Int)).toNat = b := by
    rw [BitVec.ofInt_natCast, BitVec.toNat_ofNat]; exact Nat.mod_eq_of_lt (by omega)
  show IntKind.i64.wrap ((BitVec.ofInt 64 (a : Int) ||| BitVec.ofInt 64 (b : Int)).toNat : Int) = _
  rw [BitVec.toNat_or, h1, h2, IntKind.wrap_i64]
  omega
theorem or_i64 (n c : Nat) (hn : n < 36028797018963968) (hc : c < 256) :
    bits .or .i64 (wrap64 ((n : Int) * 256)) (wrap64 (c : Int)) = ((n * 256 + c : Nat) : Int) := by
  rw [IntWalk.wrap64_in _ ⟨by omega, by omega⟩, IntWalk.wrap64_in _ ⟨by omega, by omega⟩]
  rw [show ((n : Int) * 256) = ((n * 256 : Nat) : Int) from by simp, or_i64_nat _ _ (by omega) (by omega), or_step n c hc]
theorem unsgn_len (l : List UInt8) (h : l.length = 8) : (unsgn l).length = 8 := by unfold unsgn; simp; omega
theorem unsgn_at (s : ByteArray) (k : Nat) (h1 : 1 ≤ k) (h : k < s.size) (hs : s.size = 8) : (unsgn s.data.toList).take (k + 1) = (unsgn s.data.toList).take k ++ [s[k]] := by
  have hl : s.data.toList.length = 8 := hs
  rw [List.take_succ_eq_append_getElem (by rw [unsgn_len _ hl]; omega)]
  congr 2
  unfold unsgn
  obtain ⟨j, rfl⟩ : ∃ j, k = j + 1 := ⟨k - 1, by omega⟩
  rw [List.getElem_cons_succ, List.getElem_tail]
  rfl
theorem unsgn_wd_lt (l : List UInt8) (k : Nat) (hk : k ≤ 7) (h1 : 1 ≤ k) : wd ((unsgn l).take k) < 36028797018963968 := by
  obtain ⟨j, rfl⟩ : ∃ j, k = j + 1 := ⟨k - 1, by omega⟩
  unfold unsgn
  rw [List.take_succ_cons, wd_head, and127]
  have hw := wd_lt (l.tail.take j)
  have hj : (l.tail.take j).length ≤ 6 := by rw [List.length_take]; omega
  generalize (l.tail.take j).length = m at *
  have hm : (256 : Nat) ^ m ≤ 256 ^ 6 := Nat.pow_le_pow_right (by omega) hj
  have hc : (l.headD 0).toNat % 128 ≤ 127 := by omega
  have := Nat.mul_le_mul hc hm
  omega
set_option maxHeartbeats 400000 in
theorem refBits (s : ByteArray) (w : World) (h : s.size = 8) :
    Calls Try.prog 39 #[.string s] w fun e w' => e = .returned (.tuple #[.int .i64 ((wd s.data.toList / 9223372036854775808 : Nat) : Int), .int .i64 ((wd s.data.toList % 9223372036854775808 : Nat) : Int)]) ∧ w' = w := by
  have hl : s.data.toList.length = 8 := h
  obtain ⟨e1, e2⟩ := wd_unsgn _ hl
  rw [← e1, e2, head_of s (by omega)]
  clear e1 e2 hl
  go_enter Try.func39, Try.ntmps39
  go_wp2
  go_loop [4, 5] (fun n i => ∃ k : Nat, 1 ≤ k ∧ k ≤ 8 ∧ i = .int .i64 k ∧ n = .int .i64 (wd ((unsgn s.data.toList).take k))) (fun _ i => 8 - (intOf i).toNat)
  case atStart =>
    refine ⟨1, by omega, by omega, rfl, ?_⟩
    rw [and127i]
    unfold unsgn
    rw [head_of s (by omega), List.take_succ_cons, List.take_zero, wd_head]
    simp [wd]
  case round =>
    obtain ⟨k, hk, hk8, rfl, rfl⟩ := hrel
    by_cases hlt : k < 8
    · go_wp2
      go_round
      case rel =>
        refine ⟨k + 1, by omega, by omega, by go_num, ?_⟩
        rw [unsgn_at s k hk (by omega) h, wd_snoc, or_i64 _ _ (unsgn_wd_lt _ k (by omega) hk) (s[k].toNat_lt)]
      case measure => simp [intOf]; omega
    · go_wp2
      go_ret2
      refine ⟨?_, rfl⟩
      obtain rfl : k = 8 := by omega
      rw [List.take_of_length_le (by rw [unsgn_len _ h]; omega)]
      have hc : wrap64 ((s[0].toNat : Int) / 128) = ((s[0].toNat / 128 : Nat) : Int) := by
        have := s[0].toNat_lt
        rw [IntWalk.wrap64_in _ ⟨by omega, by omega⟩]; rfl
      rw [hc]
      rfl
theorem wd8 (l : List UInt8) (h : l.length = 8) : wd l < 18446744073709551616 := by
  have := wd_lt l; rw [h] at this; exact this
def sB (l : List UInt8) : Int := ((wd l / 9223372036854775808 : Nat) : Int)
def lB (l : List UInt8) : Int := ((wd l % 9223372036854775808 : Nat) : Int)
theorem refBitsB (s : ByteArray) (w : World) (h : s.size = 8) :
    Calls Try.prog 39 #[.string s] w fun e w' => e = .returned (.tuple #[.int .i64 (sB s.data.toList), .int .i64 (lB s.data.toList)]) ∧ w' = w :=
  refBits s w h
theorem lB_bd (l : List UInt8) : 0 ≤ lB l ∧ lB l ≤ 9223372036854775807 := by unfold lB; omega
theorem sB_01 (l : List UInt8) (h : l.length = 8) : sB l = 0 ∨ sB l = 1 := by
  have := wd8 l h; unfold sB; omega
theorem num_ne (a b : List UInt8) (ha : a.length = 8) (hb : b.length = 8) (h : (sB a == sB b) = false) :
    cI (wrap64 (wd a)) (wrap64 (wd b)) = cI (sB b) (sB a) := by
  have hA := wd8 a ha
  have hB := wd8 b hb
  have h' : sB a ≠ sB b := by simpa using h
  unfold sB at h' ⊢
  generalize wd a = A at *
  generalize wd b = B at *
  unfold cI wrap64
  split <;> split <;> (try split) <;> first | rfl | omega
theorem num_eq (a b : List UInt8) (ha : a.length = 8) (hb : b.length = 8) (h : (sB a == sB b) = true) :
    cI (wrap64 (wd a)) (wrap64 (wd b)) = cI (lB a) (lB b) := by
  have hA := wd8 a ha
  have hB := wd8 b hb
  have h' : sB a = sB b := by simpa using h
  unfold sB at h'
  unfold lB
  generalize wd a = A at *
  generalize wd b = B at *
  unfold cI wrap64
  split <;> split <;> (try split) <;> first | rfl | omega
set_option maxHeartbeats 400000 in
theorem refNumber (a b : ByteArray) (w : World) (ha : a.size = 8) (hb : b.size = 8) :
    Calls Try.prog 22 #[.string a, .string b] w fun e w' => e = .returned (.int .i64 (cI (wrap64 (wd a.data.toList)) (wrap64 (wd b.data.toList)))) ∧ w' = w := by
  cases h : (sB a.data.toList == sB b.data.toList)
  · rw [num_ne _ _ ha hb h]
    go_enter Try.func22, Try.ntmps22
    go_wp2_with fail
    refine (refBitsB _ _ ha).mono ?_; rintro e w' ⟨rfl, rfl⟩
    go_wp2_with fail
    refine (refBitsB _ _ hb).mono ?_; rintro e w' ⟨rfl, rfl⟩
    have h' : (sB a.data.toList != sB b.data.toList) = true := by rw [bne, h]; rfl
    go_wp2_with fail
    refine (refCompare _ _ _).mono ?_; rintro e w' ⟨rfl, rfl⟩
    go_wp2_with fail
    go_ret
    exact ⟨rfl, rfl⟩
  · rw [num_eq _ _ ha hb h]
    go_enter Try.func22, Try.ntmps22
    go_wp2_with fail
    refine (refBitsB _ _ ha).mono ?_; rintro e w' ⟨rfl, rfl⟩
    go_wp2_with fail
    refine (refBitsB _ _ hb).mono ?_; rintro e w' ⟨rfl, rfl⟩
    have h' : (sB a.data.toList != sB b.data.toList) = false := by rw [bne, h]; rfl
    go_wp2_with fail
    refine (refCompare _ _ _).mono ?_; rintro e w' ⟨rfl, rfl⟩
    go_wp2_with fail
    go_ret
    exact ⟨rfl, rfl⟩
def nB (l : List UInt8) : Bool := decide (9218868437227405312 < lB l)
set_option maxHeartbeats 400000 in
theorem refNoNumber (l : List UInt8) (w : World) :
    Calls Try.prog 40 #[.int .i64 (lB l)] w fun e w' => e = .returned (.bool (nB l)) ∧ w' = w := by
  go_enter Try.func40, Try.ntmps40
  go_wp2
  go_ret
  exact ⟨rfl, rfl⟩
theorem isN_eq (l : List UInt8) : isN (wd l) = nB l := by
  unfold isN nB lB
  congr 1
  apply propext
  omega
theorem fkey_eq (l : List UInt8) (h : l.length = 8) : fkey (wd l) = if sB l = 1 then - lB l else lB l := by
  have hA := wd8 l h
  unfold fkey sB lB
  generalize wd l = A at *
  split <;> split <;> omega
set_option maxHeartbeats 400000 in
theorem refFloat_true_true (a b : ByteArray) (w : World) (ha : a.size = 8) (hb : b.size = 8) (h1 : nB a.data.toList = true) (h2 : nB b.data.toList = true) :
    Calls Try.prog 23 #[.string a, .string b] w fun e w' => e = .returned (.int .i64 (0)) ∧ w' = w := by
  go_enter Try.func23, Try.ntmps23
  go_wp2_with fail
  refine (refBitsB _ _ ha).mono ?_; rintro e w' ⟨rfl, rfl⟩
  go_wp2_with fail
  refine (refBitsB _ _ hb).mono ?_; rintro e w' ⟨rfl, rfl⟩
  go_wp2_with fail
  refine (refNoNumber _ _).mono ?_; rintro e w' ⟨rfl, rfl⟩
  go_wp2_with fail
  refine (refNoNumber _ _).mono ?_; rintro e w' ⟨rfl, rfl⟩
  go_wp2_with fail
  go_ret
  exact ⟨rfl, rfl⟩
set_option maxHeartbeats 400000 in
theorem refFloat_true_false (a b : ByteArray) (w : World) (ha : a.size = 8) (hb : b.size = 8) (h1 : nB a.data.toList = true) (h2 : nB b.data.toList = false) :
    Calls Try.prog 23 #[.string a, .string b] w fun e w' => e = .returned (.int .i64 (-1)) ∧ w' = w := by
  go_enter Try.func23, Try.ntmps23
  go_wp2_with fail
  refine (refBitsB _ _ ha).mono ?_; rintro e w' ⟨rfl, rfl⟩
  go_wp2_with fail
  refine (refBitsB _ _ hb).mono ?_; rintro e w' ⟨rfl, rfl⟩
  go_wp2_with fail
  refine (refNoNumber _ _).mono ?_; rintro e w' ⟨rfl, rfl⟩
  go_wp2_with fail
  refine (refNoNumber _ _).mono ?_; rintro e w' ⟨rfl, rfl⟩
  go_wp2_with fail
  go_ret
  exact ⟨rfl, rfl⟩
set_option maxHeartbeats 400000 in
theorem refFloat_false_true (a b : ByteArray) (w : World) (ha : a.size = 8) (hb : b.size = 8) (h1 : nB a.data.toList = false) (h2 : nB b.data.toList = true) :
    Calls Try.prog 23 #[.string a, .string b] w fun e w' => e = .returned (.int .i64 (1)) ∧ w' = w := by
  go_enter Try.func23, Try.ntmps23
  go_wp2_with fail
  refine (refBitsB _ _ ha).mono ?_; rintro e w' ⟨rfl, rfl⟩
  go_wp2_with fail
  refine (refBitsB _ _ hb).mono ?_; rintro e w' ⟨rfl, rfl⟩
  go_wp2_with fail
  refine (refNoNumber _ _).mono ?_; rintro e w' ⟨rfl, rfl⟩
  go_wp2_with fail
  refine (refNoNumber _ _).mono ?_; rintro e w' ⟨rfl, rfl⟩
  go_wp2_with fail
  go_ret
  exact ⟨rfl, rfl⟩
set_option maxHeartbeats 400000 in
theorem refFloat_00 (a b : ByteArray) (w : World) (ha : a.size = 8) (hb : b.size = 8) (h1 : nB a.data.toList = false) (h2 : nB b.data.toList = false)
    (g1 : (sB a.data.toList == 1) = false) (g2 : (sB b.data.toList == 1) = false) :
    Calls Try.prog 23 #[.string a, .string b] w fun e w' => e = .returned (.int .i64 (cI (lB a.data.toList) (lB b.data.toList))) ∧ w' = w := by
  obtain ⟨bA0, bA1⟩ := lB_bd a.data.toList
  obtain ⟨bB0, bB1⟩ := lB_bd b.data.toList
  go_enter Try.func23, Try.ntmps23
  go_wp2_with fail
  refine (refBitsB _ _ ha).mono ?_; rintro e w' ⟨rfl, rfl⟩
  go_wp2_with fail
  refine (refBitsB _ _ hb).mono ?_; rintro e w' ⟨rfl, rfl⟩
  go_wp2_with fail
  refine (refNoNumber _ _).mono ?_; rintro e w' ⟨rfl, rfl⟩
  go_wp2_with fail
  refine (refNoNumber _ _).mono ?_; rintro e w' ⟨rfl, rfl⟩
  go_wp2_with fail
  refine (refCompare _ _ _).mono ?_; rintro e w' ⟨rfl, rfl⟩
  go_wp2_with fail
  go_ret
  exact ⟨rfl, rfl⟩
set_option maxHeartbeats 400000 in
theorem refFloat_01 (a b : ByteArray) (w : World) (ha : a.size = 8) (hb : b.size = 8) (h1 : nB a.data.toList = false) (h2 : nB b.data.toList = false)
    (g1 : (sB a.data.toList == 1) = false) (g2 : (sB b.data.toList == 1) = true) :
    Calls Try.prog 23 #[.string a, .string b] w fun e w' => e = .returned (.int .i64 (cI (lB a.data.toList) (-lB b.data.toList))) ∧ w' = w := by
  obtain ⟨bA0, bA1⟩ := lB_bd a.data.toList
  obtain ⟨bB0, bB1⟩ := lB_bd b.data.toList
  go_enter Try.func23, Try.ntmps23
  go_wp2_with fail
  refine (refBitsB _ _ ha).mono ?_; rintro e w' ⟨rfl, rfl⟩
  go_wp2_with fail
  refine (refBitsB _ _ hb).mono ?_; rintro e w' ⟨rfl, rfl⟩
  go_wp2_with fail
  refine (refNoNumber _ _).mono ?_; rintro e w' ⟨rfl, rfl⟩
  go_wp2_with fail
  refine (refNoNumber _ _).mono ?_; rintro e w' ⟨rfl, rfl⟩
  go_wp2_with fail
  refine (refCompare _ _ _).mono ?_; rintro e w' ⟨rfl, rfl⟩
  go_wp2_with fail
  go_ret
  exact ⟨rfl, rfl⟩
set_option maxHeartbeats 400000 in
theorem refFloat_10 (a b : ByteArray) (w : World) (ha : a.size = 8) (hb : b.size = 8) (h1 : nB a.data.toList = false) (h2 : nB b.data.toList = false)
    (g1 : (sB a.data.toList == 1) = true) (g2 : (sB b.data.toList == 1) = false) :
    Calls Try.prog 23 #[.string a, .string b] w fun e w' => e = .returned (.int .i64 (cI (-lB a.data.toList) (lB b.data.toList))) ∧ w' = w := by
  obtain ⟨bA0, bA1⟩ := lB_bd a.data.toList
  obtain ⟨bB0, bB1⟩ := lB_bd b.data.toList
  go_enter Try.func23, Try.ntmps23
  go_wp2_with fail
  refine (refBitsB _ _ ha).mono ?_; rintro e w' ⟨rfl, rfl⟩
  go_wp2_with fail
  refine (refBitsB _ _ hb).mono ?_; rintro e w' ⟨rfl, rfl⟩
  go_wp2_with fail
  refine (refNoNumber _ _).mono ?_; rintro e w' ⟨rfl, rfl⟩
  go_wp2_with fail
  refine (refNoNumber _ _).mono ?_; rintro e w' ⟨rfl, rfl⟩
  go_wp2_with fail
  refine (refCompare _ _ _).mono ?_; rintro e w' ⟨rfl, rfl⟩
  go_wp2_with fail
  go_ret
  exact ⟨rfl, rfl⟩
set_option maxHeartbeats 400000 in
theorem refFloat_11 (a b : ByteArray) (w : World) (ha : a.size = 8) (hb : b.size = 8) (h1 : nB a.data.toList = false) (h2 : nB b.data.toList = false)
    (g1 : (sB a.data.toList == 1) = true) (g2 : (sB b.data.toList == 1) = true) :
    Calls Try.prog 23 #[.string a, .string b] w fun e w' => e = .returned (.int .i64 (cI (-lB a.data.toList) (-lB b.data.toList))) ∧ w' = w := by
  obtain ⟨bA0, bA1⟩ := lB_bd a.data.toList
  obtain ⟨bB0, bB1⟩ := lB_bd b.data.toList
  go_enter Try.func23, Try.ntmps23
  go_wp2_with fail
  refine (refBitsB _ _ ha).mono ?_; rintro e w' ⟨rfl, rfl⟩
  go_wp2_with fail
  refine (refBitsB _ _ hb).mono ?_; rintro e w' ⟨rfl, rfl⟩
  go_wp2_with fail
  refine (refNoNumber _ _).mono ?_; rintro e w' ⟨rfl, rfl⟩
  go_wp2_with fail
  refine (refNoNumber _ _).mono ?_; rintro e w' ⟨rfl, rfl⟩
  go_wp2_with fail
  refine (refCompare _ _ _).mono ?_; rintro e w' ⟨rfl, rfl⟩
  go_wp2_with fail
  go_ret
  exact ⟨rfl, rfl⟩
theorem refFloat (a b : ByteArray) (w : World) (ha : a.size = 8) (hb : b.size = 8) :
    Calls Try.prog 23 #[.string a, .string b] w fun e w' => e = .returned (.int .i64 (cF (wd a.data.toList) (wd b.data.toList))) ∧ w' = w := by
  have hcf : cF (wd a.data.toList) (wd b.data.toList) = if nB a.data.toList = true then (if nB b.data.toList = true then 0 else -1) else if nB b.data.toList = true then 1 else cI (if sB a.data.toList = 1 then - lB a.data.toList else lB a.data.toList) (if sB b.data.toList = 1 then - lB b.data.toList else lB b.data.toList) := by
    unfold cF
    rw [isN_eq, isN_eq, fkey_eq _ ha, fkey_eq _ hb]
  cases h1 : nB a.data.toList <;> cases h2 : nB b.data.toList
  · rw [h1, h2, if_neg (by decide), if_neg (by decide)] at hcf
    by_cases g1 : sB a.data.toList = 1 <;> by_cases g2 : sB b.data.toList = 1
    · rw [if_pos g1, if_pos g2] at hcf; rw [hcf]
      exact refFloat_11 a b w ha hb h1 h2 (by simpa using g1) (by simpa using g2)
    · rw [if_pos g1, if_neg g2] at hcf; rw [hcf]
      exact refFloat_10 a b w ha hb h1 h2 (by simpa using g1) (by simpa using g2)
    · rw [if_neg g1, if_pos g2] at hcf; rw [hcf]
      exact refFloat_01 a b w ha hb h1 h2 (by simpa using g1) (by simpa using g2)
    · rw [if_neg g1, if_neg g2] at hcf; rw [hcf]
      exact refFloat_00 a b w ha hb h1 h2 (by simpa using g1) (by simpa using g2)
  · rw [h1, h2, if_neg (by decide), if_pos rfl] at hcf; rw [hcf]
    exact refFloat_false_true a b w ha hb h1 h2
  · rw [h1, h2, if_pos rfl, if_neg (by decide)] at hcf; rw [hcf]
    exact refFloat_true_false a b w ha hb h1 h2
  · rw [h1, h2, if_pos rfl, if_pos rfl] at hcf; rw [hcf]
    exact refFloat_true_true a b w ha hb h1 h2
section
attribute [local go_sem] binOp_string_gtr
set_option maxHeartbeats 400000 in
theorem refText (x y : ByteArray) (w : World) :
    Calls Try.prog 24 #[.string x, .string y] w fun e w' => e = .returned (.int .i64 (Lib.compareBytes x.data.toList y.data.toList)) ∧ w' = w := by
  rw [← ByteArray.toList_eq, ← ByteArray.toList_eq]
  cases h1 : Op.bytesLess x.toList y.toList
  · cases h2 : (x.toList == y.toList)
    · have H := cb_gt _ _ h1 h2
      rw [← H]
      clear H
      go_enter Try.func24, Try.ntmps24
      go_wp2
      go_ret
      exact ⟨rfl, rfl⟩
    · have e : x.toList = y.toList := by simpa using h2
      have H : Lib.compareBytes x.toList y.toList = 0 := by rw [e]; exact cb_eq _
      rw [H]
      clear H e
      go_enter Try.func24, Try.ntmps24
      go_wp2
      go_ret
      exact ⟨rfl, rfl⟩
  · have H := cb_lt _ _ h1
    rw [← H]
    clear H
    go_enter Try.func24, Try.ntmps24
    go_wp2
    go_ret
    exact ⟨rfl, rfl⟩
end
end Go.Proofs.Ytbdnhccjlggpkaa
