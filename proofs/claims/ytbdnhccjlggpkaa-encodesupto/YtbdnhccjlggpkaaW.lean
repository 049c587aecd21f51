import Derived.Test.YtbdnhccjlggpkaaV4
import Derived.Deep.RegionWith
namespace Go.Proofs.Ytbdnhccjlggpkaa
open Go.RowKit
/-- The piece in a block with its sum behind it. -/
def unsealL (s : List UInt8) : Option (List UInt8) :=
  if 5 ≤ s.length ∧ s.length ≤ 64 ∧ sumL (s.take (s.length - 4)) = s.drop (s.length - 4) then some (s.take (s.length - 4)) else none
set_option maxHeartbeats 800000 in
theorem unseal_small (s : ByteArray) (w : World) (h : s.size < 5) :
    Calls Try.prog 32 #[.string s] w fun e w' => (∃ p, e = .returned (.tuple #[.string p, .bool false])) ∧ Below w.heap.size w w' := by
  go_enter Try.func32, Try.ntmps32
  go_wp2_with fail
  go_ret2
  exact ⟨⟨_, rfl⟩, Below.refl _ _⟩
set_option maxHeartbeats 800000 in
theorem unseal_great (s : ByteArray) (w : World) (h : 64 < s.size) (hm : s.size ≤ 1048576) :
    Calls Try.prog 32 #[.string s] w fun e w' => (∃ p, e = .returned (.tuple #[.string p, .bool false])) ∧ Below w.heap.size w w' := by
  go_enter Try.func32, Try.ntmps32
  go_wp2_with fail
  go_ret2
  exact ⟨⟨_, rfl⟩, Below.refl _ _⟩
set_option maxHeartbeats 800000 in
theorem unseal_mid (s : ByteArray) (w : World) (m : Nat) (hs : s.size = m + 4) (h1 : 1 ≤ m) (h2 : m ≤ 60) (b : Bool) (hb : (sumL (s.data.toList.take m) == s.data.toList.drop m) = b) :
    Calls Try.prog 32 #[.string s] w fun e w' => e = .returned (.tuple #[.string ⟨(s.data.toList.take m).toArray⟩, .bool b]) ∧ Below w.heap.size w w' := by
  have hi1 : (1 : Int) ≤ (m : Int) := by omega
  have hi2 : (m : Int) ≤ 60 := by omega
  go_enter Try.func32, Try.ntmps32
  go_wp2_with fail
  generalize hP : s.extract 0 m = P
  have HP : Hid (P.data.toList = s.data.toList.take m) := by show _ = _; rw [← hP]; simp
  have hps : P.size ≤ 1048576 := by rw [← hP]; simp; omega
  clear hP
  go_region_with (go_at_call 43; refine (sumOf_any P _ hps).mono ?_; rintro e w1 ⟨rfl, hb1⟩)
  all_goals
    have hB2 : (sumL P.data.toList == (s.extract m (m + 4)).toList) = b := by
      rw [HP.out, ← hb, ByteArray.toList_eq]
      congr 1
      simp
      rw [List.take_of_length_le (by rw [List.length_drop, Array.length_toList]; show s.size - m ≤ 4; omega)]
    have HE : Hid (P = ⟨(s.data.toList.take m).toArray⟩) := by
      show _ = _
      rw [← HP.out]
    have HL : Hid (Below w.heap.size w w1) := ((Below.refl _ w).drew).trans hb1
    clear hb hb1
    go_wp2_with fail
    go_ret2
    refine ⟨?_, HL.out⟩
    rw [← HE.out]
    first
      | rfl
      | (rw [hB2]; rfl)
theorem unseal_some {s : ByteArray} {p : List UInt8} (w : World) (h : unsealL s.data.toList = some p) :
    Calls Try.prog 32 #[.string s] w fun e w' => e = .returned (.tuple #[.string ⟨p.toArray⟩, .bool true]) ∧ Below w.heap.size w w' := by
  have hl : s.data.toList.length = s.size := rfl
  unfold unsealL at h
  split at h
  · rename_i hc
    cases h
    rw [hl] at hc ⊢
    exact unseal_mid s w (s.size - 4) (by omega) (by omega) (by omega) true (by simpa using hc.2.2)
  · cases h
theorem unseal_none {s : ByteArray} (w : World) (hm : s.size ≤ 1048576) (h : unsealL s.data.toList = none) :
    Calls Try.prog 32 #[.string s] w fun e w' => (∃ p, e = .returned (.tuple #[.string p, .bool false])) ∧ Below w.heap.size w w' := by
  have hl : s.data.toList.length = s.size := rfl
  by_cases h5 : s.size < 5
  · exact unseal_small s w h5
  · by_cases h64 : 64 < s.size
    · exact unseal_great s w h64 hm
    · unfold unsealL at h
      split at h
      · cases h
      · rename_i hc
        rw [hl] at hc
        refine (unseal_mid s w (s.size - 4) (by omega) (by omega) (by omega) false ?_).mono ?_
        · rw [beq_eq_false_iff_ne]
          intro e
          exact hc ⟨by omega, by omega, e⟩
        · rintro e w' ⟨rfl, hb⟩
          exact ⟨⟨_, rfl⟩, hb⟩
/-- Every piece but the last is full. -/
def fullB (ss : List ByteArray) : Bool := ss.dropLast.all fun s => s.size == 64
end Go.Proofs.Ytbdnhccjlggpkaa
