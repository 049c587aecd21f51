import Derived.Test.YtghlcllmfenoiaaV
import Derived.Deep.RegionWith
namespace Go.Proofs.Ytghlcllmfenoiaa
open Go.RowKit
/-- The piece in a block with its sum behind it. -/
def unsealL (s : List UInt8) : Option (List UInt8) :=
  if 5 ≤ s.length ∧ s.length ≤ 64 ∧ sumL (s.take (s.length - 4)) = s.drop (s.length - 4) then some (s.take (s.length - 4)) else none
set_option maxHeartbeats 800000 in
theorem unseal_small (s : ByteArray) (w : World) (h : s.size < 5) :
    Calls Try.prog 32 #[.string s] w fun e w' => (∃ p, e = .returned (.tuple #[.string p, .bool false])) ∧ Below w.heap.size w w' := by
  go_enter Try.func32, Try.ntmps32
  go_wp2_with fail
  go_ret2
  exact ⟨⟨_, rfl⟩, Below.refl _ _⟩
set_option maxHeartbeats 800000 in
theorem unseal_great (s : ByteArray) (w : World) (h : 64 < s.size) (hm : s.size ≤ 1048576) :
    Calls Try.prog 32 #[.string s] w fun e w' => (∃ p, e = .returned (.tuple #[.string p, .bool false])) ∧ Below w.heap.size w w' := by
  go_enter Try.func32, Try.ntmps32
  go_wp2_with fail
  go_ret2
  exact ⟨⟨_, rfl⟩, Below.refl _ _⟩
set_option maxHeartbeats 800000 in
theorem unseal_mid (s : ByteArray) (w : World) (m : Nat) (hs : s.size = m + 4) (h1 : 1 ≤ m) (h2 : m ≤ 60) (b : Bool) (hb : (sumL (s.data.toList.take m) == s.data.toList.drop m) = b) :
    Calls Try.prog 32 #[.string s] w fun e w' => e = .returned (.tuple #[.string ⟨(s.data.toList.take m).toArray⟩, .bool b]) ∧ Below w.heap.size w w' := by
  have hi1 : (1 : Int) ≤ (m : Int) := by omega
  have hi2 : (m : Int) ≤ 60 := by omega
  go_enter Try.func32, Try.ntmps32
  go_wp2_with fail
  generalize hP : s.extract 0 m = P
  have HP : Hid (P.data.toList = s.data.toList.take m) := by show _ = _; rw [← hP]; simp
  have hps : P.size ≤ 1048576 := by rw [← hP]; simp; omega
  clear hP
  go_region_with (go_at_call 44; refine (sumOf_any P _ hps).mono ?_; rintro e w1 ⟨rfl, hb1⟩)
  all_goals
    have hB2 : (sumL P.data.toList == (s.extract m (m + 4)).toList) = b := by
      rw [HP.out, ← hb, ByteArray.toList_eq]
      congr 1
      simp
      rw [List.take_of_length_le (by rw [List.length_drop, Array.length_toList]; show s.size - m ≤ 4; omega)]
    have HE : Hid (P = ⟨(s.data.toList.take m).toArray⟩) := by
      show _ = _
      rw [← HP.out]
    have HL : Hid (Below w.heap.size w w1) := ((Below.refl _ w).drew).trans hb1
    clear hb hb1
    go_wp2_with fail
    go_ret2
    refine ⟨?_, HL.out⟩
    rw [← HE.out]
    first
      | rfl
      | (rw [hB2]; rfl)
theorem unseal_some {s : ByteArray} {p : List UInt8} (w : World) (h : unsealL s.data.toList = some p) :
    Calls Try.prog 32 #[.string s] w fun e w' => e = .returned (.tuple #[.string ⟨p.toArray⟩, .bool true]) ∧ Below w.heap.size w w' := by
  have hl : s.data.toList.length = s.size := rfl
  unfold unsealL at h
  split at h
  · rename_i hc
    cases h
    rw [hl] at hc ⊢
    exact unseal_mid s w (s.size - 4) (by omega) (by omega) (by omega) true (by simpa using hc.2.2)
  · cases h
theorem unseal_none {s : ByteArray} (w : World) (hm : s.size ≤ 1048576) (h : unsealL s.data.toList = none) :
    Calls Try.prog 32 #[.string s] w fun e w' => (∃ p, e = .returned (.tuple #[.string p, .bool false])) ∧ Below w.heap.size w w' := by
  have hl : s.data.toList.length = s.size := rfl
  by_cases h5 : s.size < 5
  · exact unseal_small s w h5
  · by_cases h64 : 64 < s.size
    · exact unseal_great s w h64 hm
    · unfold unsealL at h
      split at h
      · cases h
      · rename_i hc
        rw [hl] at hc
        refine (unseal_mid s w (s.size - 4) (by omega) (by omega) (by omega) false ?_).mono ?_
        · rw [beq_eq_false_iff_ne]
          intro e
          exact hc ⟨by omega, by omega, e⟩
        · rintro e w' ⟨rfl, hb⟩
          exact ⟨⟨_, rfl⟩, hb⟩
/-- Every piece but the last is full. -/
def fullB (ss : List ByteArray) : Bool := ss.dropLast.all fun s => s.size == 64
set_option maxHeartbeats 800000 in
theorem full_0 (ao : Option Addr) (c : Nat) (w : World) :
    Calls Try.prog 33 #[.slice ao 0 c] w fun e w' => e = .returned (.bool true) ∧ w' = w := by
  go_enter Try.func33, Try.ntmps33
  go_wp2
  refine wp_loop_rounds 1 ?_
  rw [rounds_succ]
  go_wp2
  go_ret
  exact ⟨rfl, rfl⟩
set_option maxHeartbeats 800000 in
theorem full_n (b off c n : Nat) (ss : List ByteArray) (w : World) (hn : ss.length = n) (hmax : n ≤ 1048576) (h0 : 0 < n)
    (h1 : ∀ j u, (strs ss)[j]? = some u → w.cell? ⟨b, off + j, none⟩ = some u) :
    Calls Try.prog 33 #[.slice (some ⟨b, off, none⟩) n c] w fun e w' => e = .returned (.bool (fullB ss)) ∧ w' = w := by
  have H1 : Hid (∀ j u, (strs ss)[j]? = some u → w.cell? ⟨b, off + j, none⟩ = some u) := h1
  have HN : Hid (ss.length = n) := hn
  clear h1 hn
  go_enter Try.func33, Try.ntmps33
  go_wp2
  go_loop [7] (fun i => ∃ k : Nat, k < n ∧ i = .int .i64 k ∧ Hid (∀ j (hj : j < k) (hl : j < ss.length), ss[j].size = 64)) (fun i => n - (intOf i).toNat)
  case atStart => exact ⟨0, h0, rfl, fun j hj => by omega⟩
  case round =>
    obtain ⟨k, hk, rfl, hall⟩ := hrel
    by_cases hlt : k + 1 < n
    · have hl : k < ss.length := by have := HN.out; omega
      have c1 := H1.out k _ (strs_get ss k hl)
      have hi : (k : Int) < (n : Int) - 1 := by omega
      have hi2 : (k : Int) < (n : Int) := by omega
      by_cases h64 : ss[k].size = 64
      · have HQ : Hid (ss[k].size = 64) := h64
        generalize ss[k] = s at c1 h64
        have hb : ((s.size : Int) != 64) = false := by rw [h64]; rfl
        go_wp2_with fail
        go_round
        case rel =>
          refine ⟨k + 1, by omega, by go_num, ?_⟩
          intro j hj hl2
          by_cases e : j = k
          · subst e; exact HQ.out
          · exact hall.out j (by omega) hl2
        case measure => simp [intOf]; omega
      · have HF : Hid (fullB ss = false) := by
          show _ = _
          unfold fullB
          rw [List.all_eq_false]
          refine ⟨ss[k], ?_, by simpa using h64⟩
          rw [List.mem_iff_getElem]
          exact ⟨k, by rw [List.length_dropLast]; have := HN.out; omega, by rw [List.getElem_dropLast]⟩
        generalize ss[k] = s at c1 h64
        have hb : ((s.size : Int) != 64) = true := by rw [bne_iff_ne]; omega
        go_wp2_with fail
        go_ret
        exact ⟨by rw [HF.out]; rfl, rfl⟩
    · have HF : Hid (fullB ss = true) := by
        show _ = _
        unfold fullB
        rw [List.all_eq_true]
        intro x hx
        obtain ⟨j, hj, rfl⟩ := List.mem_iff_getElem.1 hx
        rw [List.length_dropLast] at hj
        rw [List.getElem_dropLast]
        have := hall.out j (by have := HN.out; omega) (by omega)
        simpa using this
      have hi : ¬ (k : Int) < (n : Int) - 1 := by omega
      go_wp2_with fail
      go_ret
      exact ⟨by rw [HF.out]; rfl, rfl⟩
theorem full_any {w : World} {B : Nat} {v : Value} {n : Nat} {ss : List ByteArray} (hn : ss.length = n) (hmax : n ≤ 1048576) (h : Rd w B v n (strs ss)) :
    Calls Try.prog 33 #[v] w fun e w' => e = .returned (.bool (fullB ss)) ∧ w' = w := by
  obtain ⟨ao, cap, rfl, hcap, h0 | ⟨b, off, rfl, hb, hc⟩⟩ := h
  · subst h0
    obtain rfl : ss = [] := List.eq_nil_of_length_eq_zero hn
    exact full_0 ao cap w
  · by_cases hz : n = 0
    · subst hz
      obtain rfl : ss = [] := List.eq_nil_of_length_eq_zero hn
      exact full_0 _ cap w
    · exact full_n b off cap n ss w hn hmax (by omega) hc
end Go.Proofs.Ytghlcllmfenoiaa
