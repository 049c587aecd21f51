import Derived.Test.YtbdnhccjlggpkaaC
namespace Go.Proofs.Ytbdnhccjlggpkaa
open Go.RowKit
def ordL (a b : List UInt8) : Int :=
  if kd a ≠ kd b then cI (kd a) (kd b)
  else if kd a = 1 then cI (numL a) (numL b)
  else if kd a = 2 then cP (reL a) (imL a) (reL b) (imL b)
  else Lib.compareBytes a b
theorem kd_cases (l : List UInt8) : kd l = 1 ∨ kd l = 2 ∨ kd l = 3 ∨ kd l = 4 := by
  unfold kd; split
  · simp
  · split
    · simp
    · split <;> simp
theorem kd3 {l : List UInt8} (h : kd l = 3) : ∃ t, l = 116 :: t := by
  unfold kd at h
  split at h
  · cases h
  · split at h
    · cases h
    · split at h
      · rename_i h1
        cases l with
        | nil => simp at h1
        | cons x t => exact ⟨t, by rw [show x = 116 from h1.2.2]⟩
      · cases h
theorem keyV1 {l : List UInt8} (h : kd l = 1) : keyV l = .iface 64 (.int .i64 (numL l)) := by unfold keyV; rw [h]; rfl
theorem keyV2 {l : List UInt8} (h : kd l = 2) : keyV l = .iface 68 (.complex .f64 (reL l) (imL l)) := by unfold keyV; rw [h]; rfl
theorem keyV3 {l : List UInt8} (h : kd l = 3) : keyV l = .iface 71 (.string ⟨l.tail.toArray⟩) := by unfold keyV; rw [h]; rfl
theorem ordL_ne {a b : List UInt8} (i j : Nat) (h : kd a = i) (g : kd b = j) (n : i ≠ j) : ordL a b = cI i j := by
  unfold ordL; rw [h, g, if_pos n]
theorem ordL_1 {a b : List UInt8} (h : kd a = 1) (g : kd b = 1) : ordL a b = cI (numL a) (numL b) := by
  unfold ordL; rw [h, g, if_neg (by decide), if_pos rfl]
theorem ordL_2 {a b : List UInt8} (h : kd a = 2) (g : kd b = 2) : ordL a b = cP (reL a) (imL a) (reL b) (imL b) := by
  unfold ordL; rw [h, g, if_neg (by decide), if_neg (by decide), if_pos rfl]
theorem ordL_3 {a b : List UInt8} (h : kd a = 3) (g : kd b = 3) : ordL a b = Lib.compareBytes (ByteArray.mk a.tail.toArray).data.toList (ByteArray.mk b.tail.toArray).data.toList := by
  unfold ordL; rw [h, g, if_neg (by decide), if_neg (by decide), if_neg (by decide)]
  obtain ⟨t, rfl⟩ := kd3 h
  obtain ⟨u, rfl⟩ := kd3 g
  rw [Lib.compareBytes]
  rw [if_neg (by decide), if_neg (by decide)]
  rfl
theorem cmp_ne' (t u : Nat) (x y : Value) (w : World) (v : Int) (ht : t = 64 ∨ t = 68 ∨ t = 71) (hu : u = 64 ∨ u = 68 ∨ u = 71) (hv : cI (rk t) (rk u) = v) (hn : v ≠ 0) :
    Calls Try.prog 18 #[.iface t x, .iface u y] w fun e w' => e = .returned (.int .i64 v) ∧ w' = w := by
  subst hv
  exact cmp_ne t u x y w ht hu hn
theorem ck12 (a b : List UInt8) (w : World) (h : kd a = 1) (g : kd b = 2) :
    Calls Try.prog 18 #[keyV a, keyV b] w fun e w' => e = .returned (.int .i64 (ordL a b)) ∧ w' = w := by
  have e : ordL a b = -1 := by rw [ordL_ne 1 2 h g (by decide)]; decide
  rw [e, keyV1 h, keyV2 g]
  exact cmp_ne' 64 68 _ _ w _ (by simp) (by simp) (by decide) (by decide)
theorem ck13 (a b : List UInt8) (w : World) (h : kd a = 1) (g : kd b = 3) :
    Calls Try.prog 18 #[keyV a, keyV b] w fun e w' => e = .returned (.int .i64 (ordL a b)) ∧ w' = w := by
  have e : ordL a b = -1 := by rw [ordL_ne 1 3 h g (by decide)]; decide
  rw [e, keyV1 h, keyV3 g]
  exact cmp_ne' 64 71 _ _ w _ (by simp) (by simp) (by decide) (by decide)
theorem ck21 (a b : List UInt8) (w : World) (h : kd a = 2) (g : kd b = 1) :
    Calls Try.prog 18 #[keyV a, keyV b] w fun e w' => e = .returned (.int .i64 (ordL a b)) ∧ w' = w := by
  have e : ordL a b = 1 := by rw [ordL_ne 2 1 h g (by decide)]; decide
  rw [e, keyV2 h, keyV1 g]
  exact cmp_ne' 68 64 _ _ w _ (by simp) (by simp) (by decide) (by decide)
theorem ck23 (a b : List UInt8) (w : World) (h : kd a = 2) (g : kd b = 3) :
    Calls Try.prog 18 #[keyV a, keyV b] w fun e w' => e = .returned (.int .i64 (ordL a b)) ∧ w' = w := by
  have e : ordL a b = -1 := by rw [ordL_ne 2 3 h g (by decide)]; decide
  rw [e, keyV2 h, keyV3 g]
  exact cmp_ne' 68 71 _ _ w _ (by simp) (by simp) (by decide) (by decide)
theorem ck31 (a b : List UInt8) (w : World) (h : kd a = 3) (g : kd b = 1) :
    Calls Try.prog 18 #[keyV a, keyV b] w fun e w' => e = .returned (.int .i64 (ordL a b)) ∧ w' = w := by
  have e : ordL a b = 1 := by rw [ordL_ne 3 1 h g (by decide)]; decide
  rw [e, keyV3 h, keyV1 g]
  exact cmp_ne' 71 64 _ _ w _ (by simp) (by simp) (by decide) (by decide)
theorem ck32 (a b : List UInt8) (w : World) (h : kd a = 3) (g : kd b = 2) :
    Calls Try.prog 18 #[keyV a, keyV b] w fun e w' => e = .returned (.int .i64 (ordL a b)) ∧ w' = w := by
  have e : ordL a b = 1 := by rw [ordL_ne 3 2 h g (by decide)]; decide
  rw [e, keyV3 h, keyV2 g]
  exact cmp_ne' 71 68 _ _ w _ (by simp) (by simp) (by decide) (by decide)
theorem ck11 (a b : List UInt8) (w : World) (h : kd a = 1) (g : kd b = 1) :
    Calls Try.prog 18 #[keyV a, keyV b] w fun e w' => e = .returned (.int .i64 (ordL a b)) ∧ w' = w := by
  rw [ordL_1 h g, keyV1 h, keyV1 g]
  exact cmp_n _ _ w
theorem ck22 (a b : List UInt8) (w : World) (h : kd a = 2) (g : kd b = 2) :
    Calls Try.prog 18 #[keyV a, keyV b] w fun e w' => e = .returned (.int .i64 (ordL a b)) ∧ w' = w := by
  rw [ordL_2 h g, keyV2 h, keyV2 g]
  exact cmp_p _ _ _ _ w
theorem ck33 (a b : List UInt8) (w : World) (h : kd a = 3) (g : kd b = 3) :
    Calls Try.prog 18 #[keyV a, keyV b] w fun e w' => e = .returned (.int .i64 (ordL a b)) ∧ w' = w := by
  rw [ordL_3 h g, keyV3 h, keyV3 g]
  exact cmp_t _ _ w
theorem cmp_keys (a b : List UInt8) (w : World) (ha : isKeyL a = true) (hb : isKeyL b = true) :
    Calls Try.prog 18 #[keyV a, keyV b] w fun e w' => e = .returned (.int .i64 (ordL a b)) ∧ w' = w := by
  have ha' : kd a ≠ 4 := by unfold isKeyL at ha; simpa using ha
  have hb' : kd b ≠ 4 := by unfold isKeyL at hb; simpa using hb
  rcases kd_cases a with h | h | h | h
  · rcases kd_cases b with g | g | g | g
    · exact ck11 a b w h g
    · exact ck12 a b w h g
    · exact ck13 a b w h g
    · exact absurd g hb'
  · rcases kd_cases b with g | g | g | g
    · exact ck21 a b w h g
    · exact ck22 a b w h g
    · exact ck23 a b w h g
    · exact absurd g hb'
  · rcases kd_cases b with g | g | g | g
    · exact ck31 a b w h g
    · exact ck32 a b w h g
    · exact ck33 a b w h g
    · exact absurd g hb'
  · exact absurd h ha'
theorem ordL_no (a b : List UInt8) (ha : isKeyL a = false) (hb : isKeyL b = false) : ordL a b = Lib.compareBytes a b := by
  have ha' : kd a = 4 := by unfold isKeyL at ha; simpa using ha
  have hb' : kd b = 4 := by unfold isKeyL at hb; simpa using hb
  unfold ordL; rw [ha', hb']; rfl
theorem ordL_l (a b : List UInt8) (ha : isKeyL a = true) (hb : isKeyL b = false) : ordL a b = -1 := by
  have ha' : kd a ≠ 4 := by unfold isKeyL at ha; simpa using ha
  have hb' : kd b = 4 := by unfold isKeyL at hb; simpa using hb
  unfold ordL; rw [hb', if_pos ha']
  rcases kd_cases a with h | h | h | h <;> rw [h] at ha' ⊢ <;> first | rfl | exact absurd rfl ha'
theorem ordL_r (a b : List UInt8) (ha : isKeyL a = false) (hb : isKeyL b = true) : ordL a b = 1 := by
  have ha' : kd a = 4 := by unfold isKeyL at ha; simpa using ha
  have hb' : kd b ≠ 4 := by unfold isKeyL at hb; simpa using hb
  unfold ordL; rw [ha', if_pos (Ne.symm hb')]
  rcases kd_cases b with h | h | h | h <;> rw [h] at hb' ⊢ <;> first | rfl | exact absurd rfl hb'
set_option maxHeartbeats 400000 in
theorem order_any (a b : ByteArray) (w : World) :
    Calls Try.prog 7 #[.string a, .string b] w fun e w' => e = .returned (.int .i64 (ordL a.data.toList b.data.toList)) ∧ ∃ n, w' = w.drewN n := by
  cases ha : isKeyL a.data.toList <;> cases hb : isKeyL b.data.toList
  · rw [ordL_no _ _ ha hb]
    go_enter Try.func7, Try.ntmps7
    go_wp2_with fail
    refine (readKey_any _ _).mono ?_; rintro e w' ⟨rfl, n1, rfl⟩
    go_wp2_with fail
    refine (readKey_any _ _).mono ?_; rintro e w' ⟨rfl, n2, rfl⟩
    go_wp2_with fail
    refine (strCompare_any _ _ _).mono ?_; rintro e w' ⟨rfl, rfl⟩
    go_wp2_with fail
    go_ret
    exact ⟨rfl, _, rfl⟩
  · rw [ordL_r _ _ ha hb]
    go_enter Try.func7, Try.ntmps7
    go_wp2_with fail
    refine (readKey_any _ _).mono ?_; rintro e w' ⟨rfl, n1, rfl⟩
    go_wp2_with fail
    refine (readKey_any _ _).mono ?_; rintro e w' ⟨rfl, n2, rfl⟩
    go_wp2_with fail
    go_ret
    exact ⟨rfl, _, rfl⟩
  · rw [ordL_l _ _ ha hb]
    go_enter Try.func7, Try.ntmps7
    go_wp2_with fail
    refine (readKey_any _ _).mono ?_; rintro e w' ⟨rfl, n1, rfl⟩
    go_wp2_with fail
    refine (readKey_any _ _).mono ?_; rintro e w' ⟨rfl, n2, rfl⟩
    go_wp2_with fail
    go_ret
    exact ⟨rfl, _, rfl⟩
  · go_enter Try.func7, Try.ntmps7
    go_wp2_with fail
    refine (readKey_any _ _).mono ?_; rintro e w' ⟨rfl, n1, rfl⟩
    go_wp2_with fail
    refine (readKey_any _ _).mono ?_; rintro e w' ⟨rfl, n2, rfl⟩
    go_wp2_with fail
    refine (cmp_keys _ _ _ ha hb).mono ?_; rintro e w' ⟨rfl, rfl⟩
    go_wp2_with fail
    go_ret
    exact ⟨rfl, _, rfl⟩
set_option maxHeartbeats 400000 in
theorem refCompare (x y : Int) (w : World) :
    Calls Try.prog 21 #[.int .i64 x, .int .i64 y] w fun e w' => e = .returned (.int .i64 (cI x y)) ∧ w' = w := by
  unfold cI
  by_cases h1 : x < y
  · rw [if_pos h1]
    go_enter Try.func21, Try.ntmps21
    go_wp2
    go_ret
    exact ⟨rfl, rfl⟩
  · rw [if_neg h1]
    by_cases h2 : y < x
    · rw [if_pos h2]
      go_enter Try.func21, Try.ntmps21
      go_wp2
      go_ret
      exact ⟨rfl, rfl⟩
    · rw [if_neg h2]
      go_enter Try.func21, Try.ntmps21
      go_wp2
      go_ret
      exact ⟨rfl, rfl⟩
theorem kd_eq (s : ByteArray) (h : 0 < s.size) : (kd s.data.toList : Int) = if (s.size : Int) = 9 ∧ ((s[0].toNat : Int) == 110) = true then 1 else if (s.size : Int) = 17 ∧ ((s[0].toNat : Int) == 112) = true then 2 else if (s.size : Int) ≤ 40 ∧ ((s[0].toNat : Int) == 116) = true then 3 else 4 := by
  have hh := head_of s h
  have hl : s.data.toList.length = s.size := rfl
  have q : ∀ c : UInt8, s.data.toList.headD 0 = c ↔ ((s[0].toNat : Int) == (c.toNat : Int)) = true := by
    intro c
    rw [hh, beq_iff_eq]
    constructor
    · intro e; rw [e]
    · intro e; exact u8_of_nat (by omega)
  have q1 := q 110
  have q2 := q 112
  have q3 := q 116
  unfold kd
  rw [hl]
  have e1 : (s.size = 9 ∧ s.data.toList.headD 0 = 110) ↔ ((s.size : Int) = 9 ∧ ((s[0].toNat : Int) == 110) = true) := and_congr (by omega) q1
  have e2 : (s.size = 17 ∧ s.data.toList.headD 0 = 112) ↔ ((s.size : Int) = 17 ∧ ((s[0].toNat : Int) == 112) = true) := and_congr (by omega) q2
  have e3 : (1 ≤ s.size ∧ s.size ≤ 40 ∧ s.data.toList.headD 0 = 116) ↔ ((s.size : Int) ≤ 40 ∧ ((s[0].toNat : Int) == 116) = true) :=
    ⟨fun x => ⟨by omega, q3.1 x.2.2⟩, fun x => ⟨by omega, by omega, q3.2 x.2⟩⟩
  simp only [e1, e2, e3]
  repeat' split
  all_goals rfl
set_option maxHeartbeats 400000 in
theorem refKind1 (s : ByteArray) (w : World) (h : 0 < s.size) :
    Calls Try.prog 20 #[.string s] w fun e w' => e = .returned (.int .i64 (kd s.data.toList)) ∧ w' = w := by
  rw [kd_eq s h]
  go_enter Try.func20, Try.ntmps20
  go_wp2
  all_goals (go_ret; refine ⟨ret_int ?_, rfl⟩)
  all_goals (simp_all; done)
set_option maxHeartbeats 400000 in
theorem refKind0 (s : ByteArray) (w : World) (h : s.size = 0) :
    Calls Try.prog 20 #[.string s] w fun e w' => e = .returned (.int .i64 (kd s.data.toList)) ∧ w' = w := by
  have hl : s.data.toList.length = s.size := rfl
  have hk : (kd s.data.toList : Int) = 4 := by unfold kd; rw [hl, if_neg (by omega), if_neg (by omega), if_neg (by omega)]; rfl
  rw [hk]
  clear hk hl
  go_enter Try.func20, Try.ntmps20
  go_wp2
  go_ret
  exact ⟨rfl, rfl⟩
theorem refKind (s : ByteArray) (w : World) :
    Calls Try.prog 20 #[.string s] w fun e w' => e = .returned (.int .i64 (kd s.data.toList)) ∧ w' = w := by
  by_cases h : s.size = 0
  · exact refKind0 s w h
  · exact refKind1 s w (by omega)
end Go.Proofs.Ytbdnhccjlggpkaa
