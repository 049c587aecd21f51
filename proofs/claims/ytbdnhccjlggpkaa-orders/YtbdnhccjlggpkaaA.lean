import Derived.Test.YtbdnhccjlggpkaaRows
import Derived.Test.YtbdnhccjlggpkaaFloats
import Derived.WalkKit
import Derived.Laws.Cover2
import Derived.Laws.Cover3
import Derived.Lib.Bytealg
import Derived.Deep.QuietTactic
import Derived.BigQuiet
import Derived.Laws.BitsAllLaws
import Derived.IntWalk
namespace Go.Proofs.Ytbdnhccjlggpkaa
open Go.RowKit
theorem ret_int {k : IntKind} {a b : Int} (h : a = b) : Ending.returned (.int k a) = .returned (.int k b) := by rw [h]
def wd (l : List UInt8) : Nat := l.foldl (fun n c => n * 256 + c.toNat) 0
theorem wd_snoc (l : List UInt8) (c : UInt8) : wd (l ++ [c]) = wd l * 256 + c.toNat := by
  unfold wd; rw [List.foldl_append]; rfl
theorem take_snoc (s : ByteArray) (k : Nat) (h : k < s.size) : s.data.toList.take (k + 1) = s.data.toList.take k ++ [s[k]] := by
  rw [List.take_succ_eq_append_getElem (by simpa using h)]; rfl
theorem wd_cons (l : List UInt8) : ∀ n, l.foldl (fun n c => n * 256 + c.toNat) n = n * 256 ^ l.length + wd l := by
  induction l with
  | nil => intro n; simp [wd]
  | cons c l ih =>
    intro n
    unfold wd
    rw [List.foldl_cons, List.foldl_cons, ih, ih]
    simp only [List.length_cons, Nat.pow_succ, Nat.add_mul, Nat.zero_mul, Nat.zero_add, Nat.mul_assoc, Nat.mul_comm 256, Nat.add_assoc]
theorem wd_lt (l : List UInt8) : wd l < 256 ^ l.length := by
  induction l with
  | nil => simp [wd]
  | cons c l ih =>
    have e : wd (c :: l) = c.toNat * 256 ^ l.length + wd l := by
      have := wd_cons l (0 * 256 + c.toNat)
      rw [Nat.zero_mul, Nat.zero_add] at this
      unfold wd at this ⊢
      rw [List.foldl_cons, Nat.zero_mul, Nat.zero_add]; exact this
    have hc : c.toNat + 1 ≤ 256 := c.toNat_lt
    have h2 := Nat.mul_le_mul_right (256 ^ l.length) hc
    rw [Nat.add_mul, Nat.one_mul] at h2
    rw [e, List.length_cons, Nat.pow_succ, Nat.mul_comm _ 256]
    omega
theorem wd_lt_of (l : List UInt8) (k : Nat) (h : l.length ≤ k) : wd l < 256 ^ k :=
  Nat.lt_of_lt_of_le (wd_lt l) (Nat.pow_le_pow_right (by omega) h)
theorem or_step (n c : Nat) (hc : c < 256) : n * 256 ||| c = n * 256 + c := by
  have h := Nat.shiftLeft_add_eq_or_of_lt (i := 8) (a := n) (b := c) (by omega)
  rw [Nat.shiftLeft_eq] at h
  exact h.symm
theorem or_u64 (n c : Nat) (hn : n < 72057594037927936) (hc : c < 256) :
    bits .or .u64 (IntKind.u64.wrap ((n : Int) * 256)) (IntKind.u64.wrap (c : Int)) = ((n * 256 + c : Nat) : Int) := by
  rw [IntWalk.u64_in _ ⟨by omega, by omega⟩, IntWalk.u64_in _ ⟨by omega, by omega⟩]
  rw [show ((n : Int) * 256) = ((n * 256 : Nat) : Int) from by simp, u64_or_nat _ _ (by omega) (by omega), or_step n c hc]
theorem word_step (s : ByteArray) (k : Nat) (h : k < s.size) (hs : s.size ≤ 8) :
    bits .or .u64 (IntKind.u64.wrap ((wd (s.data.toList.take k) : Int) * 256)) (IntKind.u64.wrap (s[k].toNat : Int)) = (wd (s.data.toList.take (k + 1)) : Int) := by
  rw [take_snoc s k h, wd_snoc]
  refine or_u64 _ _ ?_ (s[k].toNat_lt)
  refine wd_lt_of _ 7 ?_
  rw [List.length_take]; omega
set_option maxHeartbeats 400000 in
theorem readWord_any (s : ByteArray) (w : World) (hs : s.size ≤ 8) :
    Calls Try.prog 34 #[.string s] w fun e w' => e = .returned (.int .u64 (wd s.data.toList)) ∧ w' = w := by
  go_enter Try.func34, Try.ntmps34
  go_wp2
  go_loop [3, 7] (fun n i => ∃ k : Nat, k ≤ s.size ∧ i = .int .i64 k ∧ n = .int .u64 (wd (s.data.toList.take k))) (fun _ i => s.size - (intOf i).toNat)
  case atStart => exact ⟨0, Nat.zero_le _, rfl, rfl⟩
  case round =>
    obtain ⟨k, hk, rfl, rfl⟩ := hrel
    by_cases hlt : k < s.size
    · go_wp2
      go_round
      case rel => 
        refine ⟨k + 1, by omega, by go_num, ?_⟩
        rw [word_step s k hlt hs]
      case measure => simp [intOf]; omega
    · go_wp2
      go_ret
      exact ⟨ret_int (by rw [List.take_of_length_le (by simp; omega)]), rfl⟩
end Go.Proofs.Ytbdnhccjlggpkaa
