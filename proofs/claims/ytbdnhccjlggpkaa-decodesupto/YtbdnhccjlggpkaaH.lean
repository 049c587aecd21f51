import Derived.Test.YtbdnhccjlggpkaaG
import Derived.Laws.BytesArg
import Derived.Laws.Concat
import Derived.Laws.BytesString
import Derived.Lib.AppendStr
namespace Go.Proofs.Ytbdnhccjlggpkaa
open Go.RowKit
/-- The sum of a piece, as a number; and as its four bytes. -/
def sm (l : List UInt8) : Nat := l.foldl (fun n c => (n * 16777619 % 4294967296) ^^^ c.toNat) 1
theorem sm_snoc (l : List UInt8) (c : UInt8) : sm (l ++ [c]) = (sm l * 16777619 % 4294967296) ^^^ c.toNat := by
  unfold sm; rw [List.foldl_append, List.foldl_cons, List.foldl_nil]
theorem sm_lt (l : List UInt8) : sm l < 4294967296 := by
  have key : ∀ (l : List UInt8) (n : Nat), n < 4294967296 → l.foldl (fun n c => (n * 16777619 % 4294967296) ^^^ c.toNat) n < 4294967296 := by
    intro l
    induction l with
    | nil => intro n h; exact h
    | cons c l ih =>
      intro n _
      rw [List.foldl_cons]
      refine ih _ ?_
      have hc := c.toNat_lt
      exact Nat.xor_lt_two_pow (n := 32) (by omega) (by omega)
  exact key l 1 (by omega)
def sumL (l : List UInt8) : List UInt8 := [UInt8.ofNat (sm l / 16777216), UInt8.ofNat (sm l / 65536), UInt8.ofNat (sm l / 256), UInt8.ofNat (sm l)]
theorem ofNat_mod (n : Nat) : UInt8.ofNat (n % 256) = UInt8.ofNat n := by
  apply u8_of_nat
  simp
theorem byte_mod (n d : Nat) : UInt8.ofNat (((n : Int) / (d : Int) % 256).toNat) = UInt8.ofNat (n / d) := by
  rw [show ((n : Int) / (d : Int) % 256).toNat = n / d % 256 from by
    rw [show ((n : Int) / (d : Int) % 256) = ((n / d % 256 : Nat) : Int) from by simp]; rfl]
  exact ofNat_mod _
theorem byte_mod1 (n : Nat) : UInt8.ofNat (((n : Int) % 256).toNat) = UInt8.ofNat n := by
  rw [show ((n : Int) % 256).toNat = n % 256 from by omega]
  exact ofNat_mod _
theorem xor_u32 (n c : Nat) (hc : c < 256) : bits .xor .u32 ((n : Int) * 16777619 % 4294967296) ((c : Int) % 4294967296) = (((n * 16777619 % 4294967296) ^^^ c : Nat) : Int) := by
  rw [show ((n : Int) * 16777619 % 4294967296) = ((n * 16777619 % 4294967296 : Nat) : Int) from by simp, show ((c : Int) % 4294967296) = ((c : Nat) : Int) from by omega]
  exact u32_xor_nat _ _ (by omega) (by omega)
theorem sum_u32 (s : ByteArray) (k : Nat) (h : k < s.size) :
    bits .xor .u32 ((sm (s.data.toList.take k) : Int) * 16777619 % 4294967296) ((s[k].toNat : Int) % 4294967296) = (sm (s.data.toList.take (k + 1)) : Int) := by
  rw [take_snoc s k h, sm_snoc]
  exact xor_u32 _ _ (s[k].toNat_lt)
theorem xor_i64_nat (a b : Nat) (ha : a < 9223372036854775808) (hb : b < 9223372036854775808) :
    bits .xor .i64 (a : Int) (b : Int) = ((a ^^^ b : Nat) : Int) := by
  have hx : a ^^^ b < 2 ^ 63 := Nat.xor_lt_two_pow (by omega) (by omega)
  have h1 : (BitVec.ofInt 64 (a : Int)).toNat = a := by
    rw [BitVec.ofInt_natCast, BitVec.toNat_ofNat]; exact Nat.mod_eq_of_lt (by omega)
  have h2 : (BitVec.ofInt 64 (b : Int)).toNat = b := by
    rw [BitVec.ofInt_natCast, BitVec.toNat_ofNat]; exact Nat.mod_eq_of_lt (by omega)
  show IntKind.i64.wrap ((BitVec.ofInt 64 (a : Int) ^^^ BitVec.ofInt 64 (b : Int)).toNat : Int) = _
  rw [BitVec.toNat_xor, h1, h2, IntKind.wrap_i64]
  omega
theorem and_i64_nat (a b : Nat) (ha : a < 9223372036854775808) (hb : b < 9223372036854775808) :
    bits .and .i64 (a : Int) (b : Int) = ((a &&& b : Nat) : Int) := by
  have hx : a &&& b < 2 ^ 63 := Nat.and_lt_two_pow _ (by omega)
  have h1 : (BitVec.ofInt 64 (a : Int)).toNat = a := by
    rw [BitVec.ofInt_natCast, BitVec.toNat_ofNat]; exact Nat.mod_eq_of_lt (by omega)
  have h2 : (BitVec.ofInt 64 (b : Int)).toNat = b := by
    rw [BitVec.ofInt_natCast, BitVec.toNat_ofNat]; exact Nat.mod_eq_of_lt (by omega)
  show IntKind.i64.wrap ((BitVec.ofInt 64 (a : Int) &&& BitVec.ofInt 64 (b : Int)).toNat : Int) = _
  rw [BitVec.toNat_and, h1, h2, IntKind.wrap_i64]
  omega
theorem and255 (a : Nat) (ha : a < 9223372036854775808) : bits .and .i64 (a : Int) 255 = ((a % 256 : Nat) : Int) := by
  have h := and_i64_nat a 255 ha (by omega)
  rw [Nat.and_two_pow_sub_one_eq_mod a 8] at h
  exact h
theorem and32 (a : Nat) (ha : a < 9223372036854775808) : bits .and .i64 (a : Int) 4294967295 = ((a % 4294967296 : Nat) : Int) := by
  have h := and_i64_nat a 4294967295 ha (by omega)
  rw [Nat.and_two_pow_sub_one_eq_mod a 32] at h
  exact h
theorem sum_i64 (s : ByteArray) (k : Nat) (h : k < s.size) :
    bits .xor .i64 (bits .and .i64 ((sm (s.data.toList.take k) : Int) * 16777619) 4294967295) (wrap64 (s[k].toNat : Int)) = (sm (s.data.toList.take (k + 1)) : Int) := by
  have hl := sm_lt (s.data.toList.take k)
  have hc := s[k].toNat_lt
  rw [take_snoc s k h, sm_snoc, IntWalk.wrap64_in _ ⟨by omega, by omega⟩]
  rw [show ((sm (s.data.toList.take k) : Int) * 16777619) = ((sm (s.data.toList.take k) * 16777619 : Nat) : Int) from by simp, and32 _ (by omega)]
  exact xor_i64_nat _ _ (by omega) (by omega)
theorem sumBytes (l : List UInt8) : strOfNums [(sm l : Int) / 16777216 % 256, (sm l : Int) / 65536 % 256, (sm l : Int) / 256 % 256, (sm l : Int) % 256] = ⟨(sumL l).toArray⟩ := by
  unfold strOfNums sumL
  rw [List.map_cons, List.map_cons, List.map_cons, List.map_cons, List.map_nil, byte_mod1]
  have h1 := byte_mod (sm l) 16777216
  have h2 := byte_mod (sm l) 65536
  have h3 := byte_mod (sm l) 256
  rw [show ((16777216 : Nat) : Int) = 16777216 from rfl] at h1
  rw [show ((65536 : Nat) : Int) = 65536 from rfl] at h2
  rw [show ((256 : Nat) : Int) = 256 from rfl] at h3
  rw [h1, h2, h3]
theorem sumBytesR (l : List UInt8) : strOfNums [(sm l : Int) / 16777216, bits .and .i64 ((sm l : Int) / 65536) 255 % 256, bits .and .i64 ((sm l : Int) / 256) 255 % 256, bits .and .i64 (sm l : Int) 255 % 256] = ⟨(sumL l).toArray⟩ := by
  have hl := sm_lt l
  have a1 : bits .and .i64 ((sm l : Int) / 65536) 255 % 256 = (sm l : Int) / 65536 % 256 := by
    rw [show ((sm l : Int) / 65536) = ((sm l / 65536 : Nat) : Int) from by simp, and255 _ (by omega)]; omega
  have a2 : bits .and .i64 ((sm l : Int) / 256) 255 % 256 = (sm l : Int) / 256 % 256 := by
    rw [show ((sm l : Int) / 256) = ((sm l / 256 : Nat) : Int) from by simp, and255 _ (by omega)]; omega
  have a3 : bits .and .i64 (sm l : Int) 255 % 256 = (sm l : Int) % 256 := by
    rw [and255 _ (by omega)]; omega
  have a4 : (sm l : Int) / 16777216 = (sm l : Int) / 16777216 % 256 := by omega
  rw [a1, a2, a3, a4]
  exact sumBytes l
theorem conv4 (w : World) (a b c d : Int) :
    (convert 55 9 (.slice (some ⟨w.heap.size, 0, none⟩) 4 4)).run Try.prog (w.alloc (.cells #[.int .u8 a, .int .u8 b, .int .u8 c, .int .u8 d] 5)) = .ok (.string (strOfNums [a, b, c, d])) (w.alloc (.cells #[.int .u8 a, .int .u8 b, .int .u8 c, .int .u8 d] 5)) := by
  refine run_convert_bytes_arg _ 55 5 Try.underlying55 Try.underlying5 w.heap.size 0 4 4 [a, b, c, d] rfl ?_ 9 Try.underlying9
  intro i hi
  match i, hi with
  | 0, _ => simp
  | 1, _ => simp
  | 2, _ => simp
  | 3, _ => simp
set_option maxHeartbeats 400000 in
theorem sumOf_any (s : ByteArray) (w : World) (hs : s.size ≤ 1048576) :
    Calls Try.prog 43 #[.string s] w fun e w' => e = .returned (.string ⟨(sumL s.data.toList).toArray⟩) ∧ Below w.heap.size w w' := by
  have hcv := conv4
  go_enter Try.func43, Try.ntmps43
  go_wp2
  go_loop [3, 7] (fun n i => ∃ k : Nat, k ≤ s.size ∧ i = .int .i64 k ∧ n = .int .u32 (sm (s.data.toList.take k))) (fun _ i => s.size - (intOf i).toNat)
  case atStart => exact ⟨0, Nat.zero_le _, rfl, rfl⟩
  case round =>
    obtain ⟨k, hk, rfl, rfl⟩ := hrel
    by_cases hlt : k < s.size
    · go_wp2
      go_round
      case rel =>
        refine ⟨k + 1, by omega, by go_num, ?_⟩
        rw [sum_u32 s k hlt]
      case measure => simp [intOf]; omega
    · go_wp2_with fail
      go_ret
      refine ⟨?_, (Below.refl _ _).alloc (Nat.le_refl _) _⟩
      rw [List.take_of_length_le (by simp; omega), sumBytes]
      rfl
set_option maxHeartbeats 400000 in
theorem refSum_any (s : ByteArray) (w : World) (hs : s.size ≤ 1048576) :
    Calls Try.prog 31 #[.string s] w fun e w' => e = .returned (.string ⟨(sumL s.data.toList).toArray⟩) ∧ Below w.heap.size w w' := by
  have hcv := conv4
  go_enter Try.func31, Try.ntmps31
  go_wp2
  go_loop [3, 4] (fun n i => ∃ k : Nat, k ≤ s.size ∧ i = .int .i64 k ∧ n = .int .i64 (sm (s.data.toList.take k))) (fun _ i => s.size - (intOf i).toNat)
  case atStart => exact ⟨0, Nat.zero_le _, rfl, rfl⟩
  case round =>
    obtain ⟨k, hk, rfl, rfl⟩ := hrel
    have hsl := sm_lt (s.data.toList.take k)
    by_cases hlt : k < s.size
    · go_wp2
      go_round
      case rel =>
        refine ⟨k + 1, by omega, by go_num, ?_⟩
        rw [sum_i64 s k hlt]
      case measure => simp [intOf]; omega
    · go_wp2_with fail
      go_ret
      refine ⟨?_, (Below.refl _ _).alloc (Nat.le_refl _) _⟩
      rw [List.take_of_length_le (by simp; omega), sumBytesR]
      rfl
end Go.Proofs.Ytbdnhccjlggpkaa
