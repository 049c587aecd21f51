import Derived.Test.YtbdnhccjlggpkaaE
namespace Go.Proofs.Ytbdnhccjlggpkaa
open Go.RowKit
theorem kd1 {l : List UInt8} (h : kd l = 1) : l.length = 9 := by
  unfold kd at h
  split at h
  · rename_i x; exact x.1
  · split at h
    · cases h
    · split at h <;> cases h
theorem kd2 {l : List UInt8} (h : kd l = 2) : l.length = 17 := by
  unfold kd at h
  split at h
  · cases h
  · split at h
    · rename_i x; exact x.1
    · split at h <;> cases h
theorem ordL_34 {a b : List UInt8} (h : kd a = kd b) (h1 : kd a ≠ 1) (h2 : kd a ≠ 2) : ordL a b = Lib.compareBytes a b := by
  unfold ordL; rw [if_neg (by simpa using h), if_neg h1, if_neg h2]
theorem ex19 (a : ByteArray) : a.data.toList.tail.take 8 = (a.extract 1 9).data.toList := by simp
theorem ex917 (a : ByteArray) : (a.data.toList.drop 9).take 8 = (a.extract 9 17).data.toList := by simp
set_option maxHeartbeats 400000 in
theorem refOrder_ne (a b : ByteArray) (w : World) (h : kd a.data.toList ≠ kd b.data.toList) :
    Calls Try.prog 8 #[.string a, .string b] w fun e w' => e = .returned (.int .i64 (cI (kd a.data.toList) (kd b.data.toList))) ∧ ∃ n, w' = w.drewN n := by
  have h' : ((kd a.data.toList : Int) != (kd b.data.toList : Int)) = true := by rw [bne_iff_ne]; omega
  clear h
  go_enter Try.func8, Try.ntmps8
  go_wp2_with fail
  refine (refKind _ _).mono ?_; rintro e w' ⟨rfl, rfl⟩
  go_wp2_with fail
  refine (refKind _ _).mono ?_; rintro e w' ⟨rfl, rfl⟩
  go_wp2_with fail
  refine (refCompare _ _ _).mono ?_; rintro e w' ⟨rfl, rfl⟩
  go_wp2_with fail
  go_ret
  exact ⟨rfl, 0, rfl⟩
set_option maxHeartbeats 400000 in
theorem refOrder_1 (a b : ByteArray) (w : World) (h : kd a.data.toList = 1) (g : kd b.data.toList = 1) :
    Calls Try.prog 8 #[.string a, .string b] w fun e w' => e = .returned (.int .i64 (cI (numL a.data.toList) (numL b.data.toList))) ∧ ∃ n, w' = w.drewN n := by
  have sa : a.size = 9 := kd1 h
  have sb : b.size = 9 := kd1 g
  unfold numL
  rw [ex19 a, ex19 b]
  go_enter Try.func8, Try.ntmps8
  go_wp2_with fail
  refine (refKind _ _).mono ?_; rintro e w' ⟨rfl, rfl⟩
  go_wp2_with fail
  refine (refKind _ _).mono ?_; rintro e w' ⟨rfl, rfl⟩
  go_wp2_with fail
  go_quiet ((go_at_call 22; exact Calls.quiet_of_same (refNumber _ _ _ (by simp; omega) (by simp; omega))))
  go_wp2_with fail
  go_ret
  exact ⟨rfl, _, rfl⟩
set_option maxHeartbeats 400000 in
theorem refOrder_2n (a b : ByteArray) (w : World) (h : kd a.data.toList = 2) (g : kd b.data.toList = 2) (hc : (cF (reL a.data.toList) (reL b.data.toList) == 0) = false) :
    Calls Try.prog 8 #[.string a, .string b] w fun e w' => e = .returned (.int .i64 (cF (reL a.data.toList) (reL b.data.toList))) ∧ ∃ n, w' = w.drewN n := by
  have sa : a.size = 17 := kd2 h
  have sb : b.size = 17 := kd2 g
  unfold reL at hc ⊢
  have hc' : (cF (wd (a.data.toList.tail.take 8)) (wd (b.data.toList.tail.take 8)) != 0) = true := by rw [bne, hc]; rfl
  rw [ex19 a, ex19 b]
  go_enter Try.func8, Try.ntmps8
  go_wp2_with fail
  refine (refKind _ _).mono ?_; rintro e w' ⟨rfl, rfl⟩
  go_wp2_with fail
  refine (refKind _ _).mono ?_; rintro e w' ⟨rfl, rfl⟩
  go_wp2_with fail
  go_quiet ((go_at_call 23; exact Calls.quiet_of_same (refFloat _ _ _ (by simp; omega) (by simp; omega))))
  go_wp2_with fail
  go_ret
  exact ⟨rfl, _, rfl⟩
set_option maxHeartbeats 400000 in
theorem refOrder_2z (a b : ByteArray) (w : World) (h : kd a.data.toList = 2) (g : kd b.data.toList = 2) (hc : (cF (reL a.data.toList) (reL b.data.toList) == 0) = true) :
    Calls Try.prog 8 #[.string a, .string b] w fun e w' => e = .returned (.int .i64 (cF (imL a.data.toList) (imL b.data.toList))) ∧ ∃ n, w' = w.drewN n := by
  have sa : a.size = 17 := kd2 h
  have sb : b.size = 17 := kd2 g
  unfold reL at hc
  unfold imL
  rw [ex917 a, ex917 b]
  have hc' : (cF (wd (a.data.toList.tail.take 8)) (wd (b.data.toList.tail.take 8)) != 0) = false := by rw [bne, hc]; rfl
  go_enter Try.func8, Try.ntmps8
  go_wp2_with fail
  refine (refKind _ _).mono ?_; rintro e w' ⟨rfl, rfl⟩
  go_wp2_with fail
  refine (refKind _ _).mono ?_; rintro e w' ⟨rfl, rfl⟩
  go_wp2_with fail
  go_quiet ((go_at_call 23; exact Calls.quiet_of_same (refFloat _ _ _ (by simp; omega) (by simp; omega))))
  go_wp2_with fail
  go_quiet ((go_at_call 23; exact quiet_same2 (refFloat _ _ _ (by simp; omega) (by simp; omega))))
  go_wp2_with fail
  go_ret
  exact ⟨rfl, _, World.drewN_drewN _ _ _⟩
set_option maxHeartbeats 400000 in
theorem refOrder_34 (a b : ByteArray) (w : World) (h : kd a.data.toList = kd b.data.toList) (h1 : kd a.data.toList ≠ 1) (h2 : kd a.data.toList ≠ 2) :
    Calls Try.prog 8 #[.string a, .string b] w fun e w' => e = .returned (.int .i64 (Lib.compareBytes a.data.toList b.data.toList)) ∧ ∃ n, w' = w.drewN n := by
  have g0 : ((kd a.data.toList : Int) != (kd b.data.toList : Int)) = false := by rw [h]; simp
  have g1 : ((kd a.data.toList : Int) == 1) = false := by rw [beq_eq_false_iff_ne]; omega
  have g2 : ((kd a.data.toList : Int) == 2) = false := by rw [beq_eq_false_iff_ne]; omega
  clear h h1 h2
  go_enter Try.func8, Try.ntmps8
  go_wp2_with fail
  refine (refKind _ _).mono ?_; rintro e w' ⟨rfl, rfl⟩
  go_wp2_with fail
  refine (refKind _ _).mono ?_; rintro e w' ⟨rfl, rfl⟩
  go_wp2_with fail
  refine (refText _ _ _).mono ?_; rintro e w' ⟨rfl, rfl⟩
  go_wp2_with fail
  go_ret
  exact ⟨rfl, 0, rfl⟩
theorem refOrder (a b : ByteArray) (w : World) :
    Calls Try.prog 8 #[.string a, .string b] w fun e w' => e = .returned (.int .i64 (ordL a.data.toList b.data.toList)) ∧ ∃ n, w' = w.drewN n := by
  by_cases h : kd a.data.toList = kd b.data.toList
  · by_cases h1 : kd a.data.toList = 1
    · rw [ordL_1 h1 (h ▸ h1)]; exact refOrder_1 a b w h1 (h ▸ h1)
    · by_cases h2 : kd a.data.toList = 2
      · rw [ordL_2 h2 (h ▸ h2)]
        unfold cP
        by_cases hc : cF (reL a.data.toList) (reL b.data.toList) = 0
        · rw [if_pos hc]; exact refOrder_2z a b w h2 (h ▸ h2) (by simpa using hc)
        · rw [if_neg hc]; exact refOrder_2n a b w h2 (h ▸ h2) (by simpa using hc)
      · rw [ordL_34 h h1 h2]; exact refOrder_34 a b w h h1 h2
  · have e : ordL a.data.toList b.data.toList = cI (kd a.data.toList) (kd b.data.toList) := by unfold ordL; rw [if_pos h]
    rw [e]; exact refOrder_ne a b w h
end Go.Proofs.Ytbdnhccjlggpkaa
