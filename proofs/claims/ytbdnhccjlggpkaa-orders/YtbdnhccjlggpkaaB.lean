import Derived.Test.YtbdnhccjlggpkaaA
import Derived.Laws.Externs
namespace Go.Proofs.Ytbdnhccjlggpkaa
open Go.RowKit
theorem run_frombits (n : Int) (w : World) : (callFunc 47 #[.int .u64 n]).run Try.prog w = .ok (.value (.float .f64 n.toNat)) w := by
  rw [run_callFunc_extern (e := Extern.MathFloatBits.float64frombits) Try.func47 (by kernel_rfl) (by kernel_rfl) (by kernel_rfl) (by kernel_rfl)]
  rfl
theorem run_cmpstring (a b : ByteArray) (w : World) : (callFunc 49 #[.string a, .string b]).run Try.prog w = .ok (.value (.int .i64 (Lib.compareBytes a.data.toList b.data.toList))) w := by
  rw [run_callFunc_extern (e := Extern.BytealgCompare.compare) Try.func49 (by kernel_rfl) (by kernel_rfl) (by kernel_rfl) (by kernel_rfl)]
  rw [Lib.run_compareString]
  rfl
set_option maxHeartbeats 400000 in
theorem readFloat_any (s : ByteArray) (w : World) (hs : s.size ≤ 8) :
    Calls Try.prog 35 #[.string s] w fun e w' => e = .returned (.float .f64 (wd s.data.toList)) ∧ w' = w := by
  have hd := run_frombits
  go_enter Try.func35, Try.ntmps35
  go_wp2_with (go_at_call 34; refine (readWord_any _ _ hs).mono ?_; rintro e w' ⟨rfl, rfl⟩)
  go_ret
  exact ⟨rfl, rfl⟩
set_option maxHeartbeats 400000 in
theorem strCompare_any (a b : ByteArray) (w : World) :
    Calls Try.prog 19 #[.string a, .string b] w fun e w' => e = .returned (.int .i64 (Lib.compareBytes a.data.toList b.data.toList)) ∧ w' = w := by
  have hd := run_cmpstring
  go_enter Try.func19, Try.ntmps19
  go_wp2
  go_ret
  exact ⟨rfl, rfl⟩
def numL (l : List UInt8) : Int := wrap64 (wd (l.tail.take 8))
def reL (l : List UInt8) : Nat := wd (l.tail.take 8)
def imL (l : List UInt8) : Nat := wd ((l.drop 9).take 8)
theorem quiet_same2 {P : Program} {f : FuncId} {args : Array Value} {w : World} {q n : Nat} {v : Value}
    (h : Calls P f args (w.drewN (q + n)) fun e w' => e = .returned v ∧ w' = w.drewN (q + n)) : Calls P f args (w.drewN (q + n)) fun e w'' => e = .returned v ∧ ∃ m, w'' = w.drewN (q + m) :=
  h.mono fun _ _ ⟨he, hm⟩ => ⟨he, n, hm⟩
theorem toList_ne (s : ByteArray) (h : 0 < s.size) : s.toList.isEmpty = false := by
  rw [ByteArray.toList_eq]
  cases hl : s.data.toList with
  | nil =>
    have : s.data.toList.length = 0 := by rw [hl]; rfl
    simp only [Array.length_toList] at this
    exact absurd h (by show ¬ 0 < s.data.size; omega)
  | cons x l => rfl
set_option maxHeartbeats 400000 in
theorem readKey_n (s : ByteArray) (w : World) (hs : s.size = 9) (h0 : (s[0]'(by omega)).toNat = 110) :
    Calls Try.prog 17 #[.string s] w fun e w' => e = .returned (.tuple #[.iface 64 (.int .i64 (numL s.data.toList)), .bool true]) ∧ ∃ n, w' = w.drewN n := by
  have hlt : 0 < s.size := by omega
  have he := toList_ne s hlt
  go_enter Try.func17, Try.ntmps17
  go_wp2_with fail
  go_quiet (fail)
  go_wp2_with fail
  refine (readWord_any _ _ (by simp; omega)).mono ?_
  rintro e w' ⟨rfl, rfl⟩
  go_wp2
  go_ret2
  refine ⟨?_, _, rfl⟩
  rfl
set_option maxHeartbeats 400000 in
theorem readKey_p (s : ByteArray) (w : World) (hs : s.size = 17) (h0 : (s[0]'(by omega)).toNat = 112) :
    Calls Try.prog 17 #[.string s] w fun e w' => e = .returned (.tuple #[.iface 68 (.complex .f64 (reL s.data.toList) (imL s.data.toList)), .bool true]) ∧ ∃ n, w' = w.drewN n := by
  have hlt : 0 < s.size := by omega
  have he := toList_ne s hlt
  go_enter Try.func17, Try.ntmps17
  go_wp2_with fail
  go_quiet (fail)
  go_wp2_with fail
  go_quiet ((go_at_call 35; exact quiet_same2 (readFloat_any _ _ (by first | (simp; done) | (simp; omega)))))
  go_wp2_with fail
  go_ret2
  refine ⟨?_, _, World.drewN_drewN _ _ _⟩
  rfl
set_option maxHeartbeats 400000 in
theorem readKey_t (s : ByteArray) (w : World) (hlt : 0 < s.size) (hs : s.size ≤ 40) (h0 : (s[0]'(by omega)).toNat = 116) :
    Calls Try.prog 17 #[.string s] w fun e w' => e = .returned (.tuple #[.iface 71 (.string (s.extract 1 s.size)), .bool true]) ∧ ∃ n, w' = w.drewN n := by
  have he := toList_ne s hlt
  go_enter Try.func17, Try.ntmps17
  go_wp2_with fail
  go_quiet (fail)
  go_wp2_with fail
  go_ret2
  exact ⟨rfl, _, rfl⟩
set_option maxHeartbeats 400000 in
theorem readKey_x (s : ByteArray) (w : World) (hlt : 0 < s.size) (hs : s.size ≤ 40) (h0 : ((s[0]'(by omega)).toNat == 110) = false)
   (h1 : ((s[0]'(by omega)).toNat == 112) = false)  (h2 : ((s[0]'(by omega)).toNat == 116) = false) :
    Calls Try.prog 17 #[.string s] w fun e w' => e = .returned (.tuple #[.nilIface, .bool false]) ∧ ∃ n, w' = w.drewN n := by
  have he := toList_ne s hlt
  go_enter Try.func17, Try.ntmps17
  go_wp2_with fail
  go_quiet (fail)
  go_wp2_with fail
  go_ret2
  exact ⟨rfl, _, rfl⟩
set_option maxHeartbeats 400000 in
theorem readKey_0 (s : ByteArray) (w : World) (hlt : s.size = 0) :
    Calls Try.prog 17 #[.string s] w fun e w' => e = .returned (.tuple #[.nilIface, .bool false]) ∧ ∃ n, w' = w.drewN n := by
  have he : s.toList.isEmpty = true := by
    rw [ByteArray.toList_eq]
    have : s.data.toList.length = 0 := hlt
    cases hl : s.data.toList with
    | nil => rfl
    | cons x l => rw [hl] at this; cases this
  go_enter Try.func17, Try.ntmps17
  go_wp2_with fail
  all_goals (go_ret2; exact ⟨rfl, 0, rfl⟩)
set_option maxHeartbeats 400000 in
theorem readKey_41 (s : ByteArray) (w : World) (hlt : 40 < s.size) :
    Calls Try.prog 17 #[.string s] w fun e w' => e = .returned (.tuple #[.nilIface, .bool false]) ∧ ∃ n, w' = w.drewN n := by
  have he := toList_ne s (by omega)
  go_enter Try.func17, Try.ntmps17
  go_wp2_with fail
  all_goals (go_ret2; exact ⟨rfl, 0, rfl⟩)
set_option maxHeartbeats 400000 in
theorem readKey_xn (s : ByteArray) (w : World) (hlt : 0 < s.size) (hs : s.size ≤ 40) (h0 : (s[0]'(by omega)).toNat = 110) (h1 : s.size ≠ 9) :
    Calls Try.prog 17 #[.string s] w fun e w' => e = .returned (.tuple #[.nilIface, .bool false]) ∧ ∃ n, w' = w.drewN n := by
  have he := toList_ne s hlt
  go_enter Try.func17, Try.ntmps17
  go_wp2_with fail
  go_quiet (fail)
  go_wp2_with fail
  all_goals (go_ret2; exact ⟨rfl, _, rfl⟩)
set_option maxHeartbeats 400000 in
theorem readKey_xp (s : ByteArray) (w : World) (hlt : 0 < s.size) (hs : s.size ≤ 40) (h0 : (s[0]'(by omega)).toNat = 112) (h1 : s.size ≠ 17) :
    Calls Try.prog 17 #[.string s] w fun e w' => e = .returned (.tuple #[.nilIface, .bool false]) ∧ ∃ n, w' = w.drewN n := by
  have he := toList_ne s hlt
  go_enter Try.func17, Try.ntmps17
  go_wp2_with fail
  go_quiet (fail)
  go_wp2_with fail
  all_goals (go_ret2; exact ⟨rfl, _, rfl⟩)
end Go.Proofs.Ytbdnhccjlggpkaa
