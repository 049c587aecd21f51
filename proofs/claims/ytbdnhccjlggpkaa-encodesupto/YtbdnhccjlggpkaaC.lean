import Derived.Test.YtbdnhccjlggpkaaB
namespace Go.Proofs.Ytbdnhccjlggpkaa
open Go.RowKit
def kd (l : List UInt8) : Nat :=
  if l.length = 9 ∧ l.headD 0 = 110 then 1 else if l.length = 17 ∧ l.headD 0 = 112 then 2 else if 1 ≤ l.length ∧ l.length ≤ 40 ∧ l.headD 0 = 116 then 3 else 4
def keyV (l : List UInt8) : Value :=
  if kd l = 1 then .iface 64 (.int .i64 (numL l)) else if kd l = 2 then .iface 68 (.complex .f64 (reL l) (imL l)) else if kd l = 3 then .iface 71 (.string ⟨l.tail.toArray⟩) else .nilIface
def isKeyL (l : List UInt8) : Bool := kd l != 4

theorem head_of (s : ByteArray) (h : 0 < s.size) : s.data.toList.headD 0 = s[0] := by
  obtain ⟨⟨l⟩⟩ := s
  cases l with
  | nil => cases h
  | cons x l => rfl
theorem u8_of_nat {a b : UInt8} (h : a.toNat = b.toNat) : a = b := UInt8.toNat_inj.1 h
theorem extract1 (s : ByteArray) : s.extract 1 s.size = ⟨s.data.toList.tail.toArray⟩ := by
  apply ByteArray.ext
  apply Array.ext'
  simp
  rw [List.take_of_length_le (by simp)]
theorem readKey_any (s : ByteArray) (w : World) :
    Calls Try.prog 17 #[.string s] w fun e w' => e = .returned (.tuple #[keyV s.data.toList, .bool (isKeyL s.data.toList)]) ∧ ∃ n, w' = w.drewN n := by
  have hl : s.data.toList.length = s.size := rfl
  by_cases h0 : s.size = 0
  · have hk : kd s.data.toList = 4 := by unfold kd; rw [hl, if_neg (by omega), if_neg (by omega), if_neg (by omega)]
    have e1 : keyV s.data.toList = .nilIface := by unfold keyV; rw [hk]; rfl
    have e2 : isKeyL s.data.toList = false := by unfold isKeyL; rw [hk]; rfl
    rw [e1, e2]
    exact readKey_0 s w h0
  · by_cases h41 : 40 < s.size
    · have hk : kd s.data.toList = 4 := by unfold kd; rw [hl, if_neg (by omega), if_neg (by omega), if_neg (by omega)]
      have e1 : keyV s.data.toList = .nilIface := by unfold keyV; rw [hk]; rfl
      have e2 : isKeyL s.data.toList = false := by unfold isKeyL; rw [hk]; rfl
      rw [e1, e2]
      exact readKey_41 s w h41
    · have hh := head_of s (by omega)
      by_cases hn : (s[0]'(by omega)).toNat = 110
      · have hn' : s.data.toList.headD 0 = 110 := by rw [hh]; exact u8_of_nat hn
        by_cases h9 : s.size = 9
        · have hk : kd s.data.toList = 1 := by unfold kd; rw [hl, if_pos ⟨h9, hn'⟩]
          have e1 : keyV s.data.toList = .iface 64 (.int .i64 (numL s.data.toList)) := by unfold keyV; rw [hk]; rfl
          have e2 : isKeyL s.data.toList = true := by unfold isKeyL; rw [hk]; rfl
          rw [e1, e2]
          exact readKey_n s w h9 hn
        · have hk : kd s.data.toList = 4 := by
            unfold kd; rw [hl, hn', if_neg (by omega), if_neg (by intro h; exact absurd h.2 (by decide)), if_neg (by intro h; exact absurd h.2.2 (by decide))]
          have e1 : keyV s.data.toList = .nilIface := by unfold keyV; rw [hk]; rfl
          have e2 : isKeyL s.data.toList = false := by unfold isKeyL; rw [hk]; rfl
          rw [e1, e2]
          exact readKey_xn s w (by omega) (by omega) hn h9
      · have hn' : ¬ s.data.toList.headD 0 = 110 := by rw [hh]; intro e; rw [e] at hn; exact hn rfl
        by_cases hp : (s[0]'(by omega)).toNat = 112
        · have hp' : s.data.toList.headD 0 = 112 := by rw [hh]; exact u8_of_nat hp
          by_cases h17 : s.size = 17
          · have hk : kd s.data.toList = 2 := by unfold kd; rw [hl, if_neg (by intro h; exact hn' h.2), if_pos ⟨h17, hp'⟩]
            have e1 : keyV s.data.toList = .iface 68 (.complex .f64 (reL s.data.toList) (imL s.data.toList)) := by unfold keyV; rw [hk]; rfl
            have e2 : isKeyL s.data.toList = true := by unfold isKeyL; rw [hk]; rfl
            rw [e1, e2]
            exact readKey_p s w h17 hp
          · have hk : kd s.data.toList = 4 := by
              unfold kd; rw [hl, hp', if_neg (by intro h; exact absurd h.2 (by decide)), if_neg (by omega), if_neg (by intro h; exact absurd h.2.2 (by decide))]
            have e1 : keyV s.data.toList = .nilIface := by unfold keyV; rw [hk]; rfl
            have e2 : isKeyL s.data.toList = false := by unfold isKeyL; rw [hk]; rfl
            rw [e1, e2]
            exact readKey_xp s w (by omega) (by omega) hp h17
        · have hp' : ¬ s.data.toList.headD 0 = 112 := by rw [hh]; intro e; rw [e] at hp; exact hp rfl
          by_cases ht : (s[0]'(by omega)).toNat = 116
          · have ht' : s.data.toList.headD 0 = 116 := by rw [hh]; exact u8_of_nat ht
            have hk : kd s.data.toList = 3 := by unfold kd; rw [hl, if_neg (by intro h; exact hn' h.2), if_neg (by intro h; exact hp' h.2), if_pos ⟨by omega, by omega, ht'⟩]
            have e1 : keyV s.data.toList = .iface 71 (.string (s.extract 1 s.size)) := by unfold keyV; rw [hk, extract1]; rfl
            have e2 : isKeyL s.data.toList = true := by unfold isKeyL; rw [hk]; rfl
            rw [e1, e2]
            exact readKey_t s w (by omega) (by omega) ht
          · have ht' : ¬ s.data.toList.headD 0 = 116 := by rw [hh]; intro e; rw [e] at ht; exact ht rfl
            have hk : kd s.data.toList = 4 := by unfold kd; rw [hl, if_neg (by intro h; exact hn' h.2), if_neg (by intro h; exact hp' h.2), if_neg (by intro h; exact ht' h.2.2)]
            have e1 : keyV s.data.toList = .nilIface := by unfold keyV; rw [hk]; rfl
            have e2 : isKeyL s.data.toList = false := by unfold isKeyL; rw [hk]; rfl
            rw [e1, e2]
            exact readKey_x s w (by omega) (by omega) (by simp; omega) (by simp; omega) (by simp; omega)

def cI (a b : Int) : Int := if a < b then -1 else if b < a then 1 else 0
def cF (a b : Nat) : Int := if isN a then (if isN b then 0 else -1) else if isN b then 1 else cI (fkey a) (fkey b)

set_option maxHeartbeats 400000 in
theorem cmpNum (x y : Int) (w : World) :
    Calls Try.prog 73 #[.int .i64 x, .int .i64 y] w fun e w' => e = .returned (.int .i64 (cI x y)) ∧ w' = w := by
  unfold cI
  by_cases h1 : x < y
  · rw [if_pos h1]
    go_enter Try.func73, Try.ntmps73
    go_wp2
    go_ret
    exact ⟨rfl, rfl⟩
  · rw [if_neg h1]
    by_cases h2 : y < x
    · rw [if_pos h2]
      go_enter Try.func73, Try.ntmps73
      go_wp2
      go_ret
      exact ⟨rfl, rfl⟩
    · rw [if_neg h2]
      go_enter Try.func73, Try.ntmps73
      go_wp2
      go_ret
      exact ⟨rfl, rfl⟩
set_option maxHeartbeats 400000 in
theorem cmpRank (x y : Int) (w : World) :
    Calls Try.prog 36 #[.int .i64 x, .int .i64 y] w fun e w' => e = .returned (.int .i64 (cI x y)) ∧ w' = w := by
  unfold cI
  by_cases h1 : x < y
  · rw [if_pos h1]
    go_enter Try.func36, Try.ntmps36
    go_wp2
    go_ret
    exact ⟨rfl, rfl⟩
  · rw [if_neg h1]
    by_cases h2 : y < x
    · rw [if_pos h2]
      go_enter Try.func36, Try.ntmps36
      go_wp2
      go_ret
      exact ⟨rfl, rfl⟩
    · rw [if_neg h2]
      go_enter Try.func36, Try.ntmps36
      go_wp2
      go_ret
      exact ⟨rfl, rfl⟩
theorem cF_eq (x y : Nat) : cF x y = if isN x = true then (if isN y = true then 0 else -1) else if isN y = true then 1 else if fkey x < fkey y then -1 else if fkey y < fkey x then 1 else 0 := rfl
theorem ord_self (x : Nat) : (FloatKind.f64.format.order x x != some Ordering.eq) = isN x := order_self x
theorem ord_lt (x y : Nat) (hx : isN x = false) (hy : isN y = false) : (FloatKind.f64.format.order x y == some Ordering.lt) = decide (fkey x < fkey y) := order_lt x y hx hy
theorem ord_gt (x y : Nat) (hx : isN x = false) (hy : isN y = false) : (FloatKind.f64.format.order x y == some Ordering.gt) = decide (fkey y < fkey x) := order_gt x y hx hy
theorem cF_1 {x y : Nat} (h1 : (FloatKind.f64.format.order x x != some Ordering.eq) = true) (h2 : (FloatKind.f64.format.order y y != some Ordering.eq) = true) : 0 = cF x y := by
  rw [ord_self] at h1 h2; rw [cF_eq, if_pos h1, if_pos h2]
theorem cF_2 {x y : Nat} (h1 : (FloatKind.f64.format.order x x != some Ordering.eq) = true) (h2 : (FloatKind.f64.format.order y y != some Ordering.eq) = false) : -1 = cF x y := by
  rw [ord_self] at h1 h2; rw [cF_eq, if_pos h1, h2]; rfl
theorem cF_3 {x y : Nat} (h1 : (FloatKind.f64.format.order x x != some Ordering.eq) = false) (h2 : (FloatKind.f64.format.order y y != some Ordering.eq) = true) : 1 = cF x y := by
  rw [ord_self] at h1 h2; rw [cF_eq, h1, if_neg (by decide), if_pos h2]
theorem cF_4 {x y : Nat} (h1 : (FloatKind.f64.format.order x x != some Ordering.eq) = false) (h2 : (FloatKind.f64.format.order y y != some Ordering.eq) = false) (h3 : (FloatKind.f64.format.order x y == some Ordering.lt) = true) : -1 = cF x y := by
  rw [ord_self] at h1 h2; rw [ord_lt x y h1 h2] at h3; rw [cF_eq, h1, h2, if_neg (by decide), if_neg (by decide), if_pos (of_decide_eq_true h3)]
theorem cF_5 {x y : Nat} (h1 : (FloatKind.f64.format.order x x != some Ordering.eq) = false) (h2 : (FloatKind.f64.format.order y y != some Ordering.eq) = false) (h3 : (FloatKind.f64.format.order x y == some Ordering.lt) = false) (h4 : (FloatKind.f64.format.order x y == some Ordering.gt) = true) : 1 = cF x y := by
  rw [ord_self] at h1 h2; rw [ord_lt x y h1 h2] at h3; rw [ord_gt x y h1 h2] at h4; rw [cF_eq, h1, h2, if_neg (by decide), if_neg (by decide), if_neg (of_decide_eq_false h3), if_pos (of_decide_eq_true h4)]
theorem cF_6 {x y : Nat} (h1 : (FloatKind.f64.format.order x x != some Ordering.eq) = false) (h2 : (FloatKind.f64.format.order y y != some Ordering.eq) = false) (h3 : (FloatKind.f64.format.order x y == some Ordering.lt) = false) (h4 : (FloatKind.f64.format.order x y == some Ordering.gt) = false) : 0 = cF x y := by
  rw [ord_self] at h1 h2; rw [ord_lt x y h1 h2] at h3; rw [ord_gt x y h1 h2] at h4; rw [cF_eq, h1, h2, if_neg (by decide), if_neg (by decide), if_neg (of_decide_eq_false h3), if_neg (of_decide_eq_false h4)]
set_option maxHeartbeats 400000 in
theorem cmpFloat (x y : Nat) (w : World) :
    Calls Try.prog 76 #[.float .f64 x, .float .f64 y] w fun e w' => e = .returned (.int .i64 (cF x y)) ∧ w' = w := by
  go_enter Try.func76, Try.ntmps76
  go_wp2
  · go_ret; exact ⟨ret_int (cF_1 ‹_› ‹_›), rfl⟩
  · go_ret; exact ⟨ret_int (cF_2 ‹_› ‹_›), rfl⟩
  · go_ret; exact ⟨ret_int (cF_3 ‹_› ‹_›), rfl⟩
  · go_ret; exact ⟨ret_int (cF_4 ‹_› ‹_› ‹_›), rfl⟩
  · go_ret; exact ⟨ret_int (cF_5 ‹_› ‹_› ‹_› ‹_›), rfl⟩
  · go_ret; exact ⟨ret_int (cF_6 ‹_› ‹_› ‹_› ‹_›), rfl⟩

theorem cb_lt : ∀ a b : List UInt8, Op.bytesLess a b = true → -1 = Lib.compareBytes a b
  | _, [], h => by cases ‹List UInt8› <;> simp [Op.bytesLess] at h
  | [], _ :: _, _ => rfl
  | a :: x, b :: y, h => by
    unfold Op.bytesLess at h
    unfold Lib.compareBytes
    by_cases h1 : a < b
    · rw [if_pos h1]
    · simp only [h1, decide_false, Bool.false_or, Bool.and_eq_true, beq_iff_eq] at h
      rw [if_neg h1, h.1, if_neg (UInt8.lt_irrefl b)]
      exact cb_lt x y h.2
theorem cb_eq : ∀ a : List UInt8, Lib.compareBytes a a = 0
  | [] => rfl
  | a :: x => by
    unfold Lib.compareBytes
    rw [if_neg (UInt8.lt_irrefl a), if_neg (UInt8.lt_irrefl a)]
    exact cb_eq x
theorem cb_gt : ∀ a b : List UInt8, Op.bytesLess a b = false → (a == b) = false → 1 = Lib.compareBytes a b
  | [], [], _, h2 => by simp at h2
  | _ :: _, [], _, _ => rfl
  | [], _ :: _, h, _ => by simp [Op.bytesLess] at h
  | a :: x, b :: y, h, h2 => by
    unfold Op.bytesLess at h
    unfold Lib.compareBytes
    by_cases h1 : a < b
    · simp [h1] at h
    · rw [if_neg h1]
      by_cases h3 : b < a
      · rw [if_pos h3]
      · rw [if_neg h3]
        have e : a = b := UInt8.le_antisymm (UInt8.not_lt.1 h3) (UInt8.not_lt.1 h1)
        subst e
        simp [h1] at h
        simp at h2
        exact cb_gt x y h (by simpa using h2)
theorem binOp_string_gtr (t : TypeId) (a b : ByteArray) : binOp .gtr t (.string a) (.string b) = pure (.bool !(Op.bytesLess a.toList b.toList || a.toList == b.toList)) := by simp [binOp, Op.stringOp]
section
attribute [local go_sem] binOp_string_gtr
set_option maxHeartbeats 400000 in
theorem cmpText (x y : ByteArray) (w : World) :
    Calls Try.prog 79 #[.string x, .string y] w fun e w' => e = .returned (.int .i64 (Lib.compareBytes x.data.toList y.data.toList)) ∧ w' = w := by
  rw [← ByteArray.toList_eq, ← ByteArray.toList_eq]
  cases h1 : Op.bytesLess x.toList y.toList
  · cases h2 : (x.toList == y.toList)
    · have H := cb_gt _ _ h1 h2
      rw [← H]
      clear H
      go_enter Try.func79, Try.ntmps79
      go_wp2
      go_ret
      exact ⟨rfl, rfl⟩
    · have e : x.toList = y.toList := by simpa using h2
      have H : Lib.compareBytes x.toList y.toList = 0 := by rw [e]; exact cb_eq _
      rw [H]
      clear H e
      go_enter Try.func79, Try.ntmps79
      go_wp2
      go_ret
      exact ⟨rfl, rfl⟩
  · have H := cb_lt _ _ h1
    rw [← H]
    clear H
    go_enter Try.func79, Try.ntmps79
    go_wp2
    go_ret
    exact ⟨rfl, rfl⟩
end
theorem as64 (v : Value) (w : World) : (Instr.typeAssert (.iface 64 v) 46 64 false).run Try.prog w = .ok v w := by kernel_rfl
theorem as68 (v : Value) (w : World) : (Instr.typeAssert (.iface 68 v) 46 68 false).run Try.prog w = .ok v w := by kernel_rfl
theorem as71 (v : Value) (w : World) : (Instr.typeAssert (.iface 71 v) 46 71 false).run Try.prog w = .ok v w := by kernel_rfl
theorem as64_64 (v : Value) (w : World) : (Instr.typeAssert (.iface 64 v) 46 64 true).run Try.prog w = .ok (.tuple #[v, .bool true]) w := by kernel_rfl
theorem as68_64 (v : Value) (w : World) : (Instr.typeAssert (.iface 68 v) 46 64 true).run Try.prog w = .ok (.tuple #[.int .i64 0, .bool false]) w := by kernel_rfl
theorem as71_64 (v : Value) (w : World) : (Instr.typeAssert (.iface 71 v) 46 64 true).run Try.prog w = .ok (.tuple #[.int .i64 0, .bool false]) w := by kernel_rfl
theorem as68_68 (v : Value) (w : World) : (Instr.typeAssert (.iface 68 v) 46 68 true).run Try.prog w = .ok (.tuple #[v, .bool true]) w := by kernel_rfl
theorem as71_68 (v : Value) (w : World) : (Instr.typeAssert (.iface 71 v) 46 68 true).run Try.prog w = .ok (.tuple #[.complex .f64 0 0, .bool false]) w := by kernel_rfl
section
attribute [local go_sem] as64 as68 as71 as64_64 as68_64 as71_64 as68_68 as71_68
set_option maxHeartbeats 400000 in
theorem rank64 (v : Value) (w : World) : Calls Try.prog 37 #[.iface 64 v] w fun e w' => e = .returned (.int .i64 0) ∧ w' = w := by
  go_enter Try.func37, Try.ntmps37
  go_wp2
  go_ret
  exact ⟨rfl, rfl⟩
set_option maxHeartbeats 400000 in
theorem rank68 (v : Value) (w : World) : Calls Try.prog 37 #[.iface 68 v] w fun e w' => e = .returned (.int .i64 1) ∧ w' = w := by
  go_enter Try.func37, Try.ntmps37
  go_wp2
  go_ret
  exact ⟨rfl, rfl⟩
set_option maxHeartbeats 400000 in
theorem rank71 (v : Value) (w : World) : Calls Try.prog 37 #[.iface 71 v] w fun e w' => e = .returned (.int .i64 2) ∧ w' = w := by
  go_enter Try.func37, Try.ntmps37
  go_wp2
  go_ret
  exact ⟨rfl, rfl⟩
set_option maxHeartbeats 400000 in
theorem agNum (x y : Int) (w : World) :
    Calls Try.prog 72 #[.int .i64 x, .iface 64 (.int .i64 y)] w fun e w' => e = .returned (.int .i64 (cI x y)) ∧ w' = w := by
  go_enter Try.func72, Try.ntmps72
  go_wp2_with (go_at_call 73; refine (cmpNum _ _ _).mono ?_; rintro e w' ⟨rfl, rfl⟩)
  go_ret
  exact ⟨rfl, rfl⟩
set_option maxHeartbeats 400000 in
theorem agText (x y : ByteArray) (w : World) :
    Calls Try.prog 78 #[.string x, .iface 71 (.string y)] w fun e w' => e = .returned (.int .i64 (Lib.compareBytes x.data.toList y.data.toList)) ∧ w' = w := by
  go_enter Try.func78, Try.ntmps78
  go_wp2_with (go_at_call 79; refine (cmpText _ _ _).mono ?_; rintro e w' ⟨rfl, rfl⟩)
  go_ret
  exact ⟨rfl, rfl⟩
def cP (a b c d : Nat) : Int := if cF a c = 0 then cF b d else cF a c
set_option maxHeartbeats 400000 in
theorem agPoint (a b c d : Nat) (w : World) :
    Calls Try.prog 75 #[.complex .f64 a b, .iface 68 (.complex .f64 c d)] w fun e w' => e = .returned (.int .i64 (cP a b c d)) ∧ w' = w := by
  unfold cP
  by_cases h : cF a c = 0
  · rw [if_pos h]
    go_enter Try.func75, Try.ntmps75
    go_wp2_with fail
    refine (cmpFloat _ _ _).mono ?_; rintro e w' ⟨rfl, rfl⟩
    go_wp2_with fail
    refine (cmpFloat _ _ _).mono ?_; rintro e w' ⟨rfl, rfl⟩
    go_wp2_with fail
    go_ret
    exact ⟨rfl, rfl⟩
  · rw [if_neg h]
    go_enter Try.func75, Try.ntmps75
    go_wp2_with fail
    refine (cmpFloat _ _ _).mono ?_; rintro e w' ⟨rfl, rfl⟩
    go_wp2_with fail
    go_ret
    exact ⟨rfl, rfl⟩
end
/-- The rank of a type of keys. -/
def rk (t : Nat) : Int := if t = 64 then 0 else if t = 68 then 1 else 2
set_option maxHeartbeats 400000 in
theorem rank_any (t : Nat) (v : Value) (w : World) (h : t = 64 ∨ t = 68 ∨ t = 71) : Calls Try.prog 37 #[.iface t v] w fun e w' => e = .returned (.int .i64 (rk t)) ∧ w' = w := by
  rcases h with rfl | rfl | rfl
  · exact rank64 v w
  · exact rank68 v w
  · exact rank71 v w
set_option maxHeartbeats 400000 in
theorem cmp_ne (t u : Nat) (x y : Value) (w : World) (ht : t = 64 ∨ t = 68 ∨ t = 71) (hu : u = 64 ∨ u = 68 ∨ u = 71) (hn : cI (rk t) (rk u) ≠ 0) :
    Calls Try.prog 18 #[.iface t x, .iface u y] w fun e w' => e = .returned (.int .i64 (cI (rk t) (rk u))) ∧ w' = w := by
  go_enter Try.func18, Try.ntmps18
  go_wp2_with fail
  refine (rank_any t _ _ ht).mono ?_; rintro e w' ⟨rfl, rfl⟩
  go_wp2_with fail
  refine (rank_any u _ _ hu).mono ?_; rintro e w' ⟨rfl, rfl⟩
  go_wp2_with fail
  refine (cmpRank _ _ _).mono ?_; rintro e w' ⟨rfl, rfl⟩
  go_wp2_with fail
  go_ret
  exact ⟨rfl, rfl⟩
theorem meth64 (v : Value) (w : World) : (method 216 64 v "collate/collate.against").run Try.prog w = .ok (72, v) w := by kernel_rfl
theorem meth68 (v : Value) (w : World) : (method 216 68 v "collate/collate.against").run Try.prog w = .ok (75, v) w := by kernel_rfl
theorem meth71 (v : Value) (w : World) : (method 216 71 v "collate/collate.against").run Try.prog w = .ok (78, v) w := by kernel_rfl
set_option maxHeartbeats 400000 in
set_option maxRecDepth 20000 in
theorem cmp_n (x y : Int) (w : World) :
    Calls Try.prog 18 #[.iface 64 (.int .i64 x), .iface 64 (.int .i64 y)] w fun e w' => e = .returned (.int .i64 (cI x y)) ∧ w' = w := by
  have hm := meth64
  go_enter Try.func18, Try.ntmps18
  go_wp2_with fail
  refine (rank64 _ _).mono ?_; rintro e w' ⟨rfl, rfl⟩
  go_wp2_with fail
  refine (rank64 _ _).mono ?_; rintro e w' ⟨rfl, rfl⟩
  go_wp2_with fail
  refine (cmpRank _ _ _).mono ?_; rintro e w' ⟨rfl, rfl⟩
  have hc : cI 0 0 = 0 := rfl
  go_wp2_with fail
  refine (agNum _ _ _).mono ?_; rintro e w' ⟨rfl, rfl⟩
  go_wp2_with fail
  go_ret
  exact ⟨rfl, rfl⟩
set_option maxHeartbeats 400000 in
set_option maxRecDepth 20000 in
theorem cmp_p (a b c d : Nat) (w : World) :
    Calls Try.prog 18 #[.iface 68 (.complex .f64 a b), .iface 68 (.complex .f64 c d)] w fun e w' => e = .returned (.int .i64 (cP a b c d)) ∧ w' = w := by
  have hm := meth68
  go_enter Try.func18, Try.ntmps18
  go_wp2_with fail
  refine (rank68 _ _).mono ?_; rintro e w' ⟨rfl, rfl⟩
  go_wp2_with fail
  refine (rank68 _ _).mono ?_; rintro e w' ⟨rfl, rfl⟩
  go_wp2_with fail
  refine (cmpRank _ _ _).mono ?_; rintro e w' ⟨rfl, rfl⟩
  have hc : cI 1 1 = 0 := rfl
  go_wp2_with fail
  refine (agPoint _ _ _ _ _).mono ?_; rintro e w' ⟨rfl, rfl⟩
  go_wp2_with fail
  go_ret
  exact ⟨rfl, rfl⟩
set_option maxHeartbeats 400000 in
set_option maxRecDepth 20000 in
theorem cmp_t (x y : ByteArray) (w : World) :
    Calls Try.prog 18 #[.iface 71 (.string x), .iface 71 (.string y)] w fun e w' => e = .returned (.int .i64 (Lib.compareBytes x.data.toList y.data.toList)) ∧ w' = w := by
  have hm := meth71
  go_enter Try.func18, Try.ntmps18
  go_wp2_with fail
  refine (rank71 _ _).mono ?_; rintro e w' ⟨rfl, rfl⟩
  go_wp2_with fail
  refine (rank71 _ _).mono ?_; rintro e w' ⟨rfl, rfl⟩
  go_wp2_with fail
  refine (cmpRank _ _ _).mono ?_; rintro e w' ⟨rfl, rfl⟩
  have hc : cI 2 2 = 0 := rfl
  go_wp2_with fail
  refine (agText _ _ _).mono ?_; rintro e w' ⟨rfl, rfl⟩
  go_wp2_with fail
  go_ret
  exact ⟨rfl, rfl⟩
end Go.Proofs.Ytbdnhccjlggpkaa
