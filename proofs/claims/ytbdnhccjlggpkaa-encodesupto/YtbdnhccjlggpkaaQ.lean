import Derived.Test.YtbdnhccjlggpkaaP
namespace Go.Proofs.Ytbdnhccjlggpkaa
open Go.RowKit
theorem key_of_no {r : RecB} (h : noKey r = false) : isKeyL r.1.data.toList = true := by unfold noKey at h; simpa using h
theorem nokey_of {r : RecB} (h : noKey r = true) : isKeyL r.1.data.toList = false := by unfold noKey at h; simpa using h
set_option maxHeartbeats 3200000 in
theorem refEnc_e1 (b off c n j : Nat) (rs : List RecB) (w : World) (hn : rs.length = n) (hmax : n ≤ 1048576)
    (h1 : ∀ j u, (recCells rs)[j]? = some u → w.cell? ⟨b, off + j, none⟩ = some u) (hj : j < n) (hj1 : ∀ q (_ : q < j) (hq : q < rs.length), noKey rs[q] = false) (hj2 : ∀ (hq : j < rs.length), noKey rs[j] = true) :
    Calls Try.prog 11 #[.slice (some ⟨b, off, none⟩) n c] w fun e w' => e = .returned (.tuple #[.slice none 0 0, .int .i64 1, .int .i64 j]) ∧ w' = w := by
  have H1 : Hid (∀ j u, (recCells rs)[j]? = some u → w.cell? ⟨b, off + j, none⟩ = some u) := h1
  have HN : Hid (rs.length = n) := hn
  have HJ1 : Hid (∀ q (_ : q < j) (hq : q < rs.length), noKey rs[q] = false) := hj1
  have HJ2 : Hid (∀ (hq : j < rs.length), noKey rs[j] = true) := hj2
  clear h1 hn hj1 hj2
  go_enter Try.func11, Try.ntmps11
  go_wp2
  go_loop [5] (fun i => ∃ k : Nat, k ≤ j ∧ i = .int .i64 k) (fun i => j - (intOf i).toNat)
  case atStart => exact ⟨0, Nat.zero_le _, rfl⟩
  case round =>
    obtain ⟨k, hk, rfl⟩ := hrel
    have hl : k < rs.length := by have := HN.out; omega
    obtain ⟨c1, d1⟩ := at_2 H1.out k hl
    have hi : (k : Int) < (n : Int) := by omega
    by_cases hkj : k = j
    · subst hkj
      have hb := nokey_of (HJ2.out hl)
      generalize rs[k].1 = s at c1 hb
      generalize rs[k].2 = t at d1
      clear hl
      go_wp2_with fail
      refine (refIsKey_any _ _).mono ?_; rintro e w' ⟨rfl, rfl⟩
      go_wp2_with fail
      go_ret3
      exact ⟨rfl, rfl⟩
    · have hb := key_of_no (HJ1.out k (by omega) hl)
      generalize rs[k].1 = s at c1 hb
      generalize rs[k].2 = t at d1
      clear hl
      by_cases hlong : 100 < t.size
      · have hlb : decide (100 < (t.size : Int)) = true := by simp; omega
        go_wp2_with fail
        refine (refIsKey_any _ _).mono ?_; rintro e w' ⟨rfl, rfl⟩
        go_wp2_with fail
        go_loop [7] (fun i => ∃ q : Nat, k < q ∧ q ≤ j ∧ i = .int .i64 q) (fun i => j - (intOf i).toNat)
        case atStart => exact ⟨k + 1, by omega, by omega, by go_num⟩
        case round =>
          obtain ⟨q, hkq, hqj, rfl⟩ := hrel
          have hlq : q < rs.length := by have := HN.out; omega
          obtain ⟨c2, d2⟩ := at_2 H1.out q hlq
          have hi2 : (q : Int) < (n : Int) := by omega
          by_cases hqe : q = j
          · subst hqe
            have hb2 := nokey_of (HJ2.out hlq)
            generalize rs[q].1 = s2 at c2 hb2
            clear hlq d2
            go_wp2_with fail
            refine (refIsKey_any _ _).mono ?_; rintro e w' ⟨rfl, rfl⟩
            go_wp2_with fail
            go_ret3
            exact ⟨rfl, rfl⟩
          · have hb2 := key_of_no (HJ1.out q (by omega) hlq)
            generalize rs[q].1 = s2 at c2 hb2
            clear hlq d2
            go_wp2_with fail
            refine (refIsKey_any _ _).mono ?_; rintro e w' ⟨rfl, rfl⟩
            go_wp2_with fail
            go_round
            case rel => exact ⟨q + 1, by omega, by omega, by go_num⟩
            case measure => simp [intOf]; omega
      · go_wp2_with fail
        refine (refIsKey_any _ _).mono ?_; rintro e w' ⟨rfl, rfl⟩
        go_wp2_with fail
        go_round
        case rel => exact ⟨k + 1, by omega, by go_num⟩
        case measure => simp [intOf]; omega
end Go.Proofs.Ytbdnhccjlggpkaa
